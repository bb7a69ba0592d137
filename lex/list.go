package lex

import "slices"

// leading returns how many of the first elements of a list are as is asked, each with its number.
func leading[T any](l []T, is func(int, T) bool) int {
	for i, x := range l {
		if !is(i, x) {
			return i
		}
	}
	return len(l)
}

// every tells whether all elements of a list are as is asked.
func every[T any](l []T, is func(T) bool) bool {
	return leading(l, func(_ int, x T) bool { return is(x) }) == len(l)
}

// reversed returns a list from its end on.
func reversed[T any](l []T) []T {
	back := slices.Clone(l)
	slices.Reverse(back)
	return back
}
