package lex_test

import (
	"math"
	"math/rand"
	"slices"
	"strings"
	"testing"

	"dripstone/api"
	"dripstone/lex"
)

// P1.9.
func TestRescanOfEdits(t *testing.T) {
	for _, x := range []struct {
		s          string
		x          api.Edit
		head, tail int
		more       []api.Lexeme
	}{
		{"", api.Edit{}, 0, 0, nil},
		{"a b c", api.Edit{From: 2, To: 3, Put: "% "}, 1, 0, nil},
		{"a b c", api.Edit{From: 3, To: 3, Put: "d"}, 1, 1, []api.Lexeme{token(api.NameToken, "bd", 2)}},
		{"a b c", api.Edit{From: 2, To: 2}, 1, 2, nil},
		{"a b c", api.Edit{From: 0, To: 0}, 0, 3, nil},
		{"a b c", api.Edit{From: 5, To: 5}, 3, 0, nil},
		{"a b c", api.Edit{From: 2, To: 3, Put: "b"}, 1, 1, []api.Lexeme{token(api.NameToken, "b", 2)}},
		{"ab c", api.Edit{From: 1, To: 2, Put: "b"}, 1, 1, nil},
		{"a a a", api.Edit{From: 2, To: 4}, 1, 1, nil},
		{"a a a", api.Edit{From: 0, To: 2}, 0, 2, nil},
		{"a a", api.Edit{From: 3, To: 3, Put: " a"}, 2, 0, []api.Lexeme{token(api.NameToken, "a", 4)}},
		{"a a", api.Edit{Put: "a "}, 0, 2, []api.Lexeme{token(api.NameToken, "a", 0)}},
		{"a %b\nc", api.Edit{From: 2, To: 3}, 1, 1, []api.Lexeme{token(api.NameToken, "b", 2)}},
		{"al l", api.Edit{From: 2, To: 3}, 0, 0, []api.Lexeme{token(api.WordToken, "all", 0)}},
		{"a", api.Edit{From: 1, To: 1, Put: "ll"}, 0, 0, []api.Lexeme{token(api.WordToken, "all", 0)}},
		{"x = y", api.Edit{From: 3, To: 3, Put: "="}, 1, 1, []api.Lexeme{token(api.SignToken, "==", 2)}},
		{"a;b", api.Edit{To: 3, Put: "1;2;3"}, 0, 0, []api.Lexeme{token(api.NumberToken, "1", 0), token(api.SignToken, ";", 1), token(api.NumberToken, "2", 2), token(api.SignToken, ";", 3), token(api.NumberToken, "3", 4)}},
	} {
		c, at, e := lex.Rescan(x.s, x.x)
		if c.Head != x.head || c.Tail != x.tail || !slices.Equal(c.New, x.more) || at != 0 || e != api.OK {
			t.Errorf("Rescan of %q, %v: %v, %d, %v", x.s, x.x, c, at, e)
		}
	}
}

// P1.9: the errors, their order, and their places.
func TestRescanErrors(t *testing.T) {
	many := strings.Repeat(";", api.MaxTokens)
	full := strings.Repeat(" ", api.MaxText)
	for _, x := range []struct {
		s  string
		x  api.Edit
		at int
		e  api.Errno
	}{
		{full + " ", api.Edit{From: -1}, 0, api.ErrLimit},
		{"a\tb", api.Edit{From: 9}, 1, api.ErrForm},
		{"a 00", api.Edit{From: 2, To: 4}, 2, api.ErrForm},
		{"a &", api.Edit{From: 9, To: 9}, 2, api.ErrForm},
		{many + " ;", api.Edit{From: 0, To: 9}, api.MaxTokens + 1, api.ErrLimit},
		{"a b", api.Edit{From: -1}, 0, api.ErrRange},
		{"a b", api.Edit{From: 2, To: 1, Put: "\t"}, 0, api.ErrRange},
		{"a b", api.Edit{From: 1, To: 4, Put: "&"}, 0, api.ErrRange},
		{"a b", api.Edit{From: math.MaxInt, To: math.MaxInt}, 0, api.ErrRange},
		{"a b", api.Edit{From: 1, To: 1, Put: " 00"}, 2, api.ErrForm},
		{"a b", api.Edit{From: 1, To: 2, Put: "00\t"}, 3, api.ErrForm},
		{"a b", api.Edit{From: 0, To: 0, Put: full}, 0, api.ErrLimit},
		{many, api.Edit{From: 0, To: 0, Put: " ;"}, api.MaxTokens + 1, api.ErrLimit},
		{many, api.Edit{From: 0, To: 0, Put: "&;"}, 0, api.ErrForm},
		{"a  b", api.Edit{From: 1, To: 2, Put: "1234567890123"}, 0, api.ErrForm},
	} {
		c, at, e := lex.Rescan(x.s, x.x)
		if c.Head != 0 || c.Tail != 0 || c.New != nil || at != x.at || e != x.e {
			t.Errorf("Rescan of %.20q, %.20v: %v, %d, %v; not %d, %v", x.s, x.x, c, at, e, x.at, x.e)
		}
	}
	if c, at, e := lex.Rescan(many, api.Edit{From: 450, To: 450, Put: " "}); c.Head != 450 || c.Tail != 450 || len(c.New) != 0 || at != 0 || e != api.OK {
		t.Errorf("Rescan of as many tokens as there may be: %v, %d, %v", c, at, e)
	}
}

// staying returns how many of the first and of the last tokens stay, found from the greatest number down.
func staying(old, now []api.Lexeme, x api.Edit, by int) (head, tail int) {
	for head = min(len(old), len(now)); head > 0; head-- {
		if slices.Equal(old[:head], now[:head]) && old[head-1].At < x.From {
			break
		}
	}
	for tail = min(len(old), len(now)); tail > 0; tail-- {
		last := slices.Clone(old[len(old)-tail:])
		for i := range last {
			last[i].At += by
		}
		if slices.Equal(last, now[len(now)-tail:]) && old[len(old)-tail].At >= x.To {
			break
		}
	}
	return head, tail
}

// stays tests P1.9, P1.10 and P1.13 with one edit.
func stays(t *testing.T, s string, x api.Edit) {
	old, _, e := lex.Scan(s)
	after := applied(s, x)
	now, at, f := lex.Scan(after)
	c, place, g := lex.Rescan(s, x)
	if e != api.OK {
		return
	}
	if f != api.OK {
		if g != f || place != at || c.Head != 0 || c.Tail != 0 || c.New != nil {
			t.Errorf("Rescan of %q, %v: %v, %d, %v; not %d, %v", s, x, c, place, g, at, f)
		}
		return
	}
	head, tail := staying(old, now, x, len(after)-len(s))
	if c.Head != head || c.Tail != tail || !slices.Equal(c.New, now[head:len(now)-tail]) || place != 0 || g != api.OK {
		t.Errorf("Rescan of %q, %v: %v, %d, %v; not %d, %d", s, x, c, place, g, head, tail)
	}
	if l, e := lex.Patch(old, x, c); !slices.Equal(l, now) || e != api.OK {
		t.Errorf("Patch of the tokens of %q, %v: %v, %v; not %v", s, x, l, e, now)
	}
	feed := strings.IndexByte(s[x.To:], '\n')
	for i, y := range old {
		if y.At+len(y.Text) < x.From && i >= c.Head {
			t.Errorf("Rescan of %q, %v: Head %d, but %v ends before", s, x, c.Head, y)
		}
		if feed >= 0 && y.At > x.To+feed && len(old)-i > c.Tail {
			t.Errorf("Rescan of %q, %v: Tail %d, but %v begins behind a line feed", s, x, c.Tail, y)
		}
	}
}

// P1.9, P1.10, P1.13: on all short texts and edits, and on longer ones.
func TestRescanAgain(t *testing.T) {
	for s := range allTexts("a=% \n", 4) {
		for x := range allEdits(s, "", "a", "=", "% ", "\n") {
			stays(t, s, x)
		}
	}
	r := rand.New(rand.NewSource(4))
	for range 5000 {
		s := someText(r, 30)
		from := r.Intn(len(s) + 1)
		stays(t, s, api.Edit{From: from, To: from + r.Intn(min(4, len(s)-from+1)), Put: someText(r, 4)})
	}
}

// P1.10: tokens and texts are not looked at, but for places.
func TestPatchTokens(t *testing.T) {
	odd := []api.Lexeme{{Kind: 9, Text: "no token", At: 2500}, {At: 0}, {Text: "c", At: 7}}
	for _, x := range []struct {
		l    []api.Lexeme
		x    api.Edit
		c    api.Change
		want []api.Lexeme
	}{
		{nil, api.Edit{}, api.Change{}, nil},
		{[]api.Lexeme{}, api.Edit{}, api.Change{New: []api.Lexeme{}}, nil},
		{odd, api.Edit{}, api.Change{Head: 3}, odd},
		{odd, api.Edit{}, api.Change{Tail: 3}, odd},
		{odd, api.Edit{}, api.Change{}, nil},
		{odd, api.Edit{To: 2, Put: "abc"}, api.Change{Head: 1, Tail: 1}, []api.Lexeme{odd[0], {Text: "c", At: 8}}},
		{odd, api.Edit{To: 2500}, api.Change{Tail: 2}, []api.Lexeme{{At: -2500}, {Text: "c", At: -2493}}},
		{odd, api.Edit{From: 2500, To: 2500, Put: strings.Repeat("\x00", 2500)}, api.Change{Head: 2, Tail: 1, New: odd[:1]}, []api.Lexeme{odd[0], odd[1], odd[0], {Text: "c", At: 2507}}},
		{odd, api.Edit{From: 1, To: 1, Put: "x"}, api.Change{Head: 1, New: odd[1:]}, odd},
	} {
		if l, e := lex.Patch(x.l, x.x, x.c); !slices.Equal(l, x.want) || e != api.OK {
			t.Errorf("Patch of %v, %.20v, %v: %v, %v", x.l, x.x, x.c, l, e)
		}
	}
}

// P1.10: the errors, their order, and the limits.
func TestPatchErrors(t *testing.T) {
	tokens := func(n int) []api.Lexeme { return make([]api.Lexeme, n) }
	long := strings.Repeat("a", api.MaxText+1)
	for i, x := range []struct {
		l []api.Lexeme
		x api.Edit
		c api.Change
		e api.Errno
	}{
		{tokens(901), api.Edit{From: -1}, api.Change{Head: -1}, api.ErrLimit},
		{tokens(2), api.Edit{From: -1}, api.Change{New: tokens(901)}, api.ErrLimit},
		{tokens(2), api.Edit{From: -1, Put: long}, api.Change{}, api.ErrLimit},
		{tokens(2), api.Edit{Put: long[1:]}, api.Change{}, api.OK},
		{tokens(900), api.Edit{}, api.Change{Head: 450, Tail: 450}, api.OK},
		{tokens(900), api.Edit{}, api.Change{New: tokens(900)}, api.OK},
		{tokens(900), api.Edit{}, api.Change{Head: 1, New: tokens(900)}, api.ErrLimit},
		{tokens(900), api.Edit{}, api.Change{Tail: 1, New: tokens(900)}, api.ErrLimit},
		{tokens(900), api.Edit{}, api.Change{Head: 900, Tail: 1, New: tokens(1)}, api.ErrRange},
		{tokens(2), api.Edit{From: -1}, api.Change{}, api.ErrRange},
		{tokens(2), api.Edit{From: 1}, api.Change{}, api.ErrRange},
		{tokens(2), api.Edit{From: 0, To: 2501}, api.Change{}, api.ErrRange},
		{tokens(2), api.Edit{From: 2501, To: 2501}, api.Change{}, api.ErrRange},
		{tokens(2), api.Edit{From: 2500, To: 2500}, api.Change{}, api.OK},
		{tokens(2), api.Edit{From: math.MinInt, To: math.MinInt}, api.Change{}, api.ErrRange},
		{tokens(2), api.Edit{}, api.Change{Head: -1}, api.ErrRange},
		{tokens(2), api.Edit{}, api.Change{Tail: -1}, api.ErrRange},
		{tokens(2), api.Edit{}, api.Change{Head: 3, Tail: -1}, api.ErrRange},
		{tokens(2), api.Edit{}, api.Change{Head: -1, Tail: 3}, api.ErrRange},
		{tokens(2), api.Edit{}, api.Change{Head: 2, Tail: 1}, api.ErrRange},
		{tokens(2), api.Edit{}, api.Change{Head: 3}, api.ErrRange},
		{tokens(2), api.Edit{}, api.Change{Tail: 3}, api.ErrRange},
		{nil, api.Edit{}, api.Change{Head: 1}, api.ErrRange},
		{tokens(2), api.Edit{}, api.Change{Head: math.MaxInt, Tail: math.MaxInt}, api.ErrRange},
		{tokens(2), api.Edit{}, api.Change{Head: math.MaxInt, Tail: 3}, api.ErrRange},
		{tokens(2), api.Edit{}, api.Change{Head: math.MinInt, Tail: math.MinInt}, api.ErrRange},
		{tokens(2), api.Edit{}, api.Change{Head: 1, Tail: math.MinInt}, api.ErrRange},
		{[]api.Lexeme{{At: -1}}, api.Edit{}, api.Change{}, api.ErrRange},
		{[]api.Lexeme{{}, {At: 2501}}, api.Edit{}, api.Change{}, api.ErrRange},
		{[]api.Lexeme{{}, {At: 2500}}, api.Edit{}, api.Change{New: []api.Lexeme{{At: 2500}}}, api.OK},
		{nil, api.Edit{}, api.Change{New: []api.Lexeme{{}, {At: 2501}}}, api.ErrRange},
		{nil, api.Edit{}, api.Change{New: []api.Lexeme{{At: -1}}}, api.ErrRange},
		{tokens(900), api.Edit{}, api.Change{Head: 900, New: []api.Lexeme{{At: -1}}}, api.ErrRange},
	} {
		if l, e := lex.Patch(x.l, x.x, x.c); e != x.e || e != api.OK && l != nil {
			t.Errorf("%d: Patch: %d tokens, %v; not %v", i, len(l), e, x.e)
		}
	}
}
