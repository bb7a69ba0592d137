package lex

import (
	"iter"
	"strings"

	"dripstone/api"
)

// Where returns the line and the column of a place of a text.
func Where(s string, at int) (api.Where, api.Errno) {
	if _, e := fault(s); e != api.OK {
		return api.Where{}, e
	}
	for place, w := range places(s) {
		if place == at {
			return w, api.OK
		}
	}
	return api.Where{}, api.ErrRange
}

// At returns the place of a text with a line and a column.
func At(s string, w api.Where) (int, api.Errno) {
	if _, e := fault(s); e != api.OK {
		return 0, e
	}
	for place, here := range places(s) {
		if here == w {
			return place, api.OK
		}
	}
	return 0, api.ErrRange
}

// places yields all places of a text, its end too, with their lines and columns.
func places(s string) iter.Seq2[int, api.Where] {
	return func(yield func(int, api.Where) bool) {
		w := api.Where{Line: 1, Column: 1}
		for at := range len(s) {
			if !yield(at, w) {
				return
			}
			w.Column++
			if s[at] == '\n' {
				w = api.Where{Line: w.Line + 1, Column: 1}
			}
		}
		yield(len(s), w)
	}
}

// Comments returns where the comments of a text are.
func Comments(s string) ([]api.Stretch, int, api.Errno) {
	if at, e := fault(s); e != api.OK {
		return nil, at, e
	}
	var l []api.Stretch
	for c := range comments(s) {
		l = append(l, c)
	}
	return l, 0, api.OK
}

// Blank returns a text in which each byte of a comment is a blank.
func Blank(s string) (string, int, api.Errno) {
	if at, e := fault(s); e != api.OK {
		return "", at, e
	}
	return blanked(s), 0, api.OK
}

// blanked is Blank of a right text.
func blanked(s string) string {
	b := []byte(s)
	for c := range comments(s) {
		for i := range c.To - c.From {
			b[c.From+i] = ' '
		}
	}
	return string(b)
}

// comments yields where the comments of a text are, ascending.
func comments(s string) iter.Seq[api.Stretch] {
	return func(yield func(api.Stretch) bool) {
		for from := find(s, 0, '%'); from < len(s); {
			to := find(s, from, '\n')
			if !yield(api.Stretch{From: from, To: to}) {
				return
			}
			from = find(s, to, '%')
		}
	}
}

// find returns the first place of a byte from another place on, or the end of the text.
func find(s string, at int, c byte) int {
	i := strings.IndexByte(s[at:], c)
	if i < 0 {
		return len(s)
	}
	return at + i
}
