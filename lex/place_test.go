package lex_test

import (
	"math"
	"math/rand"
	"slices"
	"strings"
	"testing"

	"dripstone/api"
	"dripstone/lex"
)

// P1.4: lines and columns, at the ends of lines and of the text too.
func TestWhereAndAt(t *testing.T) {
	for _, x := range []struct {
		s    string
		at   int
		want api.Where
	}{
		{"", 0, api.Where{Line: 1, Column: 1}},
		{"\n", 0, api.Where{Line: 1, Column: 1}},
		{"\n", 1, api.Where{Line: 2, Column: 1}},
		{"a\n%b\nc", 5, api.Where{Line: 3, Column: 1}},
		{"a\n%b\nc", 4, api.Where{Line: 2, Column: 3}},
		{"a\n%b\nc", 6, api.Where{Line: 3, Column: 2}},
		{"\n\n\nab", 4, api.Where{Line: 4, Column: 2}},
		{strings.Repeat("a", api.MaxText), api.MaxText, api.Where{Line: 1, Column: api.MaxText + 1}},
		{strings.Repeat("\n", api.MaxText), api.MaxText, api.Where{Line: api.MaxText + 1, Column: 1}},
		{"& 00", 3, api.Where{Line: 1, Column: 4}},
	} {
		if w, e := lex.Where(x.s, x.at); w != x.want || e != api.OK {
			t.Errorf("Where of %.20q, %d: %v, %v", x.s, x.at, w, e)
		}
		if at, e := lex.At(x.s, x.want); at != x.at || e != api.OK {
			t.Errorf("At of %.20q, %v: %d, %v", x.s, x.want, at, e)
		}
	}
}

// P1.4: the errors and their order.
func TestWhereAndAtErrors(t *testing.T) {
	long := strings.Repeat("a", api.MaxText+1)
	for _, x := range []struct {
		s  string
		at int
		e  api.Errno
	}{
		{"ab", -1, api.ErrRange}, {"ab", 3, api.ErrRange}, {"", 1, api.ErrRange}, {"", math.MinInt, api.ErrRange}, {"a", math.MaxInt, api.ErrRange},
		{"a\tb", 0, api.ErrForm}, {"a\tb", 9, api.ErrForm}, {long, 0, api.ErrLimit}, {long + "\x00", -1, api.ErrLimit},
	} {
		if w, e := lex.Where(x.s, x.at); w != (api.Where{}) || e != x.e {
			t.Errorf("Where of %.20q, %d: %v, %v", x.s, x.at, w, e)
		}
	}
	for _, x := range []struct {
		s string
		w api.Where
		e api.Errno
	}{
		{"a\nb", api.Where{}, api.ErrRange}, {"a\nb", api.Where{Line: 1}, api.ErrRange}, {"a\nb", api.Where{Column: 1}, api.ErrRange},
		{"a\nb", api.Where{Line: 1, Column: 3}, api.ErrRange}, {"a\nb", api.Where{Line: 2, Column: 3}, api.ErrRange}, {"a\nb", api.Where{Line: 3, Column: 1}, api.ErrRange},
		{"a\nb", api.Where{Line: 2, Column: 0}, api.ErrRange}, {"a\nb", api.Where{Line: 2, Column: -1}, api.ErrRange}, {"a\nb", api.Where{Line: -1, Column: 1}, api.ErrRange},
		{"", api.Where{Line: 1, Column: 2}, api.ErrRange}, {"", api.Where{Line: math.MaxInt, Column: math.MaxInt}, api.ErrRange}, {"", api.Where{Line: math.MinInt, Column: math.MinInt}, api.ErrRange},
		{"a\tb", api.Where{Line: 1, Column: 1}, api.ErrForm}, {"a\tb", api.Where{}, api.ErrForm}, {long, api.Where{Line: 1, Column: 1}, api.ErrLimit}, {long + "\x00", api.Where{}, api.ErrLimit},
	} {
		if at, e := lex.At(x.s, x.w); at != 0 || e != x.e {
			t.Errorf("At of %.20q, %v: %d, %v", x.s, x.w, at, e)
		}
	}
}

// P1.14: At of Where of a place is the place; and lines and columns are as they are counted.
func TestPlacesAgain(t *testing.T) {
	r := rand.New(rand.NewSource(3))
	for range 300 {
		s := someText(r, 50)
		for at := range len(s) + 1 {
			w, e := lex.Where(s, at)
			line := strings.Count(s[:at], "\n") + 1
			column := at - strings.LastIndexByte(s[:at], '\n')
			if w != (api.Where{Line: line, Column: column}) || e != api.OK {
				t.Errorf("Where of %q, %d: %v, %v", s, at, w, e)
			}
			if back, e := lex.At(s, w); back != at || e != api.OK {
				t.Errorf("At of Where of %q, %d: %d, %v", s, at, back, e)
			}
		}
	}
}

// P1.5: where the comments are, and the text without them.
func TestCommentsAndBlank(t *testing.T) {
	for _, x := range []struct {
		s, blank string
		want     []api.Stretch
	}{
		{"", "", nil},
		{"a b\n", "a b\n", nil},
		{"%", " ", []api.Stretch{{From: 0, To: 1}}},
		{"%\n", " \n", []api.Stretch{{From: 0, To: 1}}},
		{"%%%", "   ", []api.Stretch{{From: 0, To: 3}}},
		{"%a\n%b", "  \n  ", []api.Stretch{{From: 0, To: 2}, {From: 3, To: 5}}},
		{"a\n%b\nc", "a\n  \nc", []api.Stretch{{From: 2, To: 4}}},
		{"& 00%A % b\n~", "& 00      \n~", []api.Stretch{{From: 4, To: 10}}},
		{"\"%\"", "\"  ", []api.Stretch{{From: 1, To: 3}}},
		{"%" + strings.Repeat("a", api.MaxText-1), strings.Repeat(" ", api.MaxText), []api.Stretch{{From: 0, To: api.MaxText}}},
	} {
		if l, at, e := lex.Comments(x.s); !slices.Equal(l, x.want) || at != 0 || e != api.OK {
			t.Errorf("Comments of %.20q: %v, %d, %v", x.s, l, at, e)
		}
		if s, at, e := lex.Blank(x.s); s != x.blank || at != 0 || e != api.OK {
			t.Errorf("Blank of %.20q: %.20q, %d, %v", x.s, s, at, e)
		}
	}
}

// P1.5: the errors, with their places.
func TestCommentsAndBlankErrors(t *testing.T) {
	for _, x := range []struct {
		s  string
		at int
		e  api.Errno
	}{
		{"%a\tb\x00", 2, api.ErrForm}, {"\x80", 0, api.ErrForm}, {"a%b\nc\x7f", 5, api.ErrForm},
		{strings.Repeat("%", api.MaxText+1), 0, api.ErrLimit}, {strings.Repeat("\t", api.MaxText+1), 0, api.ErrLimit},
	} {
		if l, at, e := lex.Comments(x.s); l != nil || at != x.at || e != x.e {
			t.Errorf("Comments of %.20q: %v, %d, %v", x.s, l, at, e)
		}
		if s, at, e := lex.Blank(x.s); s != "" || at != x.at || e != x.e {
			t.Errorf("Blank of %.20q: %q, %d, %v", x.s, s, at, e)
		}
	}
}

// P1.5, P1.11: Blank is what Comments says, and leaves no comment; no token has changed.
func TestBlankByComments(t *testing.T) {
	for s := range allTexts("a=% \n", 6) {
		b := []byte(s)
		l, _, _ := lex.Comments(s)
		last := 0
		for _, c := range l {
			if c.From < last || c.From >= c.To || s[c.From] != '%' || strings.Contains(s[c.From:c.To], "\n") || c.To < len(s) && s[c.To] != '\n' {
				t.Fatalf("Comments of %q: %v", s, l)
			}
			copy(b[c.From:c.To], strings.Repeat(" ", len(s)))
			last = c.To
		}
		if strings.Contains(string(b), "%") {
			t.Errorf("Comments of %q: %v", s, l)
		}
		if got, _, e := lex.Blank(s); got != string(b) || e != api.OK {
			t.Errorf("Blank of %q: %q, %v", s, got, e)
		}
		if !slices.Equal(scanned(s), scanned(string(b))) {
			t.Errorf("Blank of %q changes tokens", s)
		}
	}
}
