package lex

import (
	"slices"

	"dripstone/api"
)

// Rescan returns how the tokens of a text change by an edit.
func Rescan(s string, x api.Edit) (api.Change, int, api.Errno) {
	old, at, e := Scan(s)
	if e != api.OK {
		return api.Change{}, at, e
	}
	y, ok := edit(s, x)
	if !ok {
		return api.Change{}, 0, api.ErrRange
	}
	now, at, e := Scan(y.after)
	if e != api.OK {
		return api.Change{}, at, e
	}
	head, tail := y.head(old, now), y.tail(old, now)
	return api.Change{Head: head, Tail: tail, New: now[head : len(now)-tail]}, 0, api.OK
}

// head returns how many of the first tokens stay.
func (x edited) head(old, now []api.Lexeme) int {
	return leading(old, func(i int, t api.Lexeme) bool {
		return t.At < x.From && i < len(now) && now[i] == t
	})
}

// tail returns how many of the last tokens stay, but for their places.
func (x edited) tail(old, now []api.Lexeme) int {
	last := reversed(now)
	return leading(reversed(old), func(i int, t api.Lexeme) bool {
		return t.At >= x.To && i < len(last) && last[i] == moved(t, x.shift())
	})
}

// moved returns a token whose place is greater by a number.
func moved(t api.Lexeme, by int) api.Lexeme {
	t.At += by
	return t
}

// Patch returns tokens after a change by an edit.
func Patch(l []api.Lexeme, x api.Edit, c api.Change) ([]api.Lexeme, api.Errno) {
	if len(l) > api.MaxTokens || len(c.New) > api.MaxTokens || len(x.Put) > api.MaxText {
		return nil, api.ErrLimit
	}
	if !inRange(l, x, c) {
		return nil, api.ErrRange
	}
	if c.Head+len(c.New)+c.Tail > api.MaxTokens {
		return nil, api.ErrLimit
	}
	out := slices.Concat(l[:c.Head], c.New, l[len(l)-c.Tail:])
	by := len(x.Put) - (x.To - x.From)
	for i := range c.Tail {
		at := len(out) - 1 - i
		out[at] = moved(out[at], by)
	}
	return out, api.OK
}

// inRange tells whether all numbers that Patch is passed are in their ranges.
func inRange(l []api.Lexeme, x api.Edit, c api.Change) bool {
	placed := func(t api.Lexeme) bool { return isPlace(t.At) }
	// Tail is held against what is left, as the sum of any two numbers may not fit.
	return isPlace(x.From) && isPlace(x.To) && x.From <= x.To &&
		c.Head >= 0 && c.Tail >= 0 && c.Head <= len(l) && c.Tail <= len(l)-c.Head &&
		every(l, placed) && every(c.New, placed)
}

// isPlace tells whether a text can have a place.
func isPlace(at int) bool { return at >= 0 && at <= api.MaxText }
