package lex

import "dripstone/api"

// edited is an edit with the text before it and the text behind it.
type edited struct {
	api.Edit
	before, after string
}

// edit does an edit; it is false if this is not one of the text.
func edit(s string, x api.Edit) (edited, bool) {
	if x.From < 0 || x.From > x.To || x.To > len(s) {
		return edited{}, false
	}
	return edited{Edit: x, before: s, after: s[:x.From] + x.Put + s[x.To:]}, true
}

// shift returns by how much the bytes behind an edit move.
func (x edited) shift() int { return len(x.after) - len(x.before) }

// back returns which place before the edit a place behind it was, or the end of what the edit took away if the place was not behind that.
func (x edited) back(at int) int {
	if at >= x.From+len(x.Put) {
		return at - x.shift()
	}
	return x.To
}

// apply does an edit, with the errors of Apply.
func apply(s string, x api.Edit) (edited, api.Errno) {
	if _, e := fault(s); e != api.OK {
		return edited{}, e
	}
	y, ok := edit(s, x)
	if !ok {
		return edited{}, api.ErrRange
	}
	if _, e := fault(y.after); e != api.OK {
		return edited{}, e
	}
	return y, api.OK
}

// Apply returns the text after an edit.
func Apply(s string, x api.Edit) (string, api.Errno) {
	y, e := apply(s, x)
	return y.after, e
}

// Undo returns the edit that takes an edit back.
func Undo(s string, x api.Edit) (api.Edit, api.Errno) {
	y, e := apply(s, x)
	if e != api.OK {
		return api.Edit{}, e
	}
	return api.Edit{From: y.From, To: y.From + len(y.Put), Put: s[y.From:y.To]}, api.OK
}

// Diff returns the edit that makes the text b of the text a, and keeps as much of it as possible.
func Diff(a, b string) (api.Edit, api.Errno) {
	if _, e := fault(a); e != api.OK {
		return api.Edit{}, e
	}
	if _, e := fault(b); e != api.OK {
		return api.Edit{}, e
	}
	from := alike([]byte(a), []byte(b))
	// Only what is behind the beginning counts for the end: the same byte must not stay twice.
	end := alike(reversed([]byte(a[from:])), reversed([]byte(b[from:])))
	return api.Edit{From: from, To: len(a) - end, Put: b[from : len(b)-end]}, api.OK
}

// alike returns how many of the first bytes of two lists are the same.
func alike(a, b []byte) int {
	return leading(a, func(i int, c byte) bool { return i < len(b) && b[i] == c })
}

// Both returns the one edit that does x, and then y.
func Both(s string, x, y api.Edit) (api.Edit, api.Errno) {
	first, e := apply(s, x)
	if e != api.OK {
		return api.Edit{}, e
	}
	second, e := apply(first.after, y)
	if e != api.OK {
		return api.Edit{}, e
	}
	from := min(first.From, second.From)
	to := first.back(second.To)
	end := len(second.after) - (len(s) - to)
	return api.Edit{From: from, To: to, Put: second.after[from:end]}, api.OK
}
