package order

import "dripstone/api"

// some are elements of a table: of each one the bit with its number is set.
type some uint16

// of returns some elements.
func of(elems ...int) some {
	var s some
	for _, a := range elems {
		s |= 1 << a
	}
	return s
}

func (s some) has(a int) bool { return s>>a&1 == 1 }

// list returns the numbers of elements, ascending.
func (s some) list() []int {
	var l []int
	for a := range api.MaxElems {
		if s.has(a) {
			l = append(l, a)
		}
	}
	return l
}
