package lex_test

import (
	"math"
	"strings"
	"testing"

	"dripstone/api"
	"dripstone/lex"
)

// P1.6.
func TestApplyAndUndo(t *testing.T) {
	full := strings.Repeat("a", api.MaxText)
	for _, x := range []struct {
		s    string
		x    api.Edit
		want string
		undo api.Edit
	}{
		{"", api.Edit{}, "", api.Edit{}},
		{"", api.Edit{Put: "& 00"}, "& 00", api.Edit{To: 4}},
		{"abc", api.Edit{From: 1, To: 2, Put: "xy"}, "axyc", api.Edit{From: 1, To: 3, Put: "b"}},
		{"abc", api.Edit{From: 3, To: 3, Put: "\n~ "}, "abc\n~ ", api.Edit{From: 3, To: 6}},
		{"abc", api.Edit{To: 3}, "", api.Edit{Put: "abc"}},
		{"abc", api.Edit{From: 2, To: 2}, "abc", api.Edit{From: 2, To: 2}},
		{full, api.Edit{From: 7, To: 8, Put: "b"}, full[:7] + "b" + full[8:], api.Edit{From: 7, To: 8, Put: "a"}},
	} {
		if s, e := lex.Apply(x.s, x.x); s != x.want || e != api.OK {
			t.Errorf("Apply of %.20q, %v: %.20q, %v", x.s, x.x, s, e)
		}
		if u, e := lex.Undo(x.s, x.x); u != x.undo || e != api.OK {
			t.Errorf("Undo of %.20q, %v: %v, %v", x.s, x.x, u, e)
		}
	}
}

// editErrors are texts and edits of them with the errors of Apply.
func editErrors() []struct {
	s string
	x api.Edit
	e api.Errno
} {
	full := strings.Repeat("a", api.MaxText)
	return []struct {
		s string
		x api.Edit
		e api.Errno
	}{
		{full + "a", api.Edit{To: 1}, api.ErrLimit},
		{full + "\x00", api.Edit{From: -1}, api.ErrLimit},
		{"a\tb", api.Edit{From: 1, To: 2}, api.ErrForm},
		{"a\tb", api.Edit{From: 3, To: 2}, api.ErrForm},
		{"abc", api.Edit{From: -1, To: 2}, api.ErrRange},
		{"abc", api.Edit{From: 2, To: 1, Put: "\t"}, api.ErrRange},
		{"abc", api.Edit{From: 0, To: 4, Put: full}, api.ErrRange},
		{"abc", api.Edit{From: 4, To: 4}, api.ErrRange},
		{"abc", api.Edit{From: math.MinInt, To: math.MaxInt}, api.ErrRange},
		{"abc", api.Edit{From: math.MaxInt, To: math.MinInt}, api.ErrRange},
		{"abc", api.Edit{From: 0, To: -1}, api.ErrRange},
		{"abc", api.Edit{To: 1, Put: "\x7f"}, api.ErrForm},
		{"abc", api.Edit{To: 3, Put: "\xc3\xa4"}, api.ErrForm},
		{full, api.Edit{Put: "b"}, api.ErrLimit},
		{full, api.Edit{Put: "\x00"}, api.ErrLimit},
		{"", api.Edit{Put: full + "b"}, api.ErrLimit},
	}
}

// P1.6: the errors and their order.
func TestApplyAndUndoErrors(t *testing.T) {
	for _, x := range editErrors() {
		if s, e := lex.Apply(x.s, x.x); s != "" || e != x.e {
			t.Errorf("Apply of %.20q, %v: %.20q, %v; not %v", x.s, x.x, s, e, x.e)
		}
		if u, e := lex.Undo(x.s, x.x); u != (api.Edit{}) || e != x.e {
			t.Errorf("Undo of %.20q, %v: %v, %v; not %v", x.s, x.x, u, e, x.e)
		}
	}
}

// P1.12: Undo takes back, and Undo of it is the edit again.
func TestUndoAgain(t *testing.T) {
	for s := range allTexts("ab\n", 4) {
		for x := range allEdits(s, "", "a", "ba") {
			after, e := lex.Apply(s, x)
			u, f := lex.Undo(s, x)
			if e != api.OK || f != api.OK || after != applied(s, x) {
				t.Fatalf("Apply, Undo of %q, %v: %v, %v", s, x, e, f)
			}
			if back, e := lex.Apply(after, u); back != s || e != api.OK {
				t.Errorf("%q, %v: taken back to %q, %v", s, x, back, e)
			}
			if again, e := lex.Undo(after, u); again != x || e != api.OK {
				t.Errorf("%q, %v: Undo of Undo is %v, %v", s, x, again, e)
			}
		}
	}
}

// P1.7.
func TestDiffOfTexts(t *testing.T) {
	full := strings.Repeat("a", api.MaxText)
	for _, x := range []struct {
		a, b string
		want api.Edit
	}{
		{"let a = 1;", "let ab = 1;", api.Edit{From: 5, To: 5, Put: "b"}},
		{"aa", "aaa", api.Edit{From: 2, To: 2, Put: "a"}},
		{"aaa", "aa", api.Edit{From: 2, To: 3}},
		{"", "", api.Edit{}},
		{"abc", "abc", api.Edit{From: 3, To: 3}},
		{"abc", "", api.Edit{To: 3}},
		{"", "abc", api.Edit{Put: "abc"}},
		{"aba", "aa", api.Edit{From: 1, To: 2}},
		{"abab", "ab", api.Edit{From: 2, To: 4}},
		{"xby", "xcy", api.Edit{From: 1, To: 2, Put: "c"}},
		{"&\n~", "&\n!~", api.Edit{From: 2, To: 2, Put: "!"}},
		{full, full[1:], api.Edit{From: api.MaxText - 1, To: api.MaxText}},
		{full, full, api.Edit{From: api.MaxText, To: api.MaxText}},
	} {
		if got, e := lex.Diff(x.a, x.b); got != x.want || e != api.OK {
			t.Errorf("Diff of %.20q and %.20q: %v, %v", x.a, x.b, got, e)
		}
	}
	for _, x := range []struct {
		a, b string
		e    api.Errno
	}{
		{"\t", full + "a", api.ErrForm}, {full + "a", "\t", api.ErrLimit}, {"a", "\t", api.ErrForm}, {"a", full + "a", api.ErrLimit},
		{"\t", "\t", api.ErrForm}, {full + "\x00", full + "\x00", api.ErrLimit}, {"\x80", "a", api.ErrForm}, {"a", full + "\x00", api.ErrLimit},
	} {
		if got, e := lex.Diff(x.a, x.b); got != (api.Edit{}) || e != x.e {
			t.Errorf("Diff of %.20q and %.20q: %v, %v", x.a, x.b, got, e)
		}
	}
}

// leastEdit returns how few bytes an edit that makes b of a takes away and puts.
func leastEdit(a, b string) int {
	least := len(a) + len(b)
	for x := range allEdits(a, "") {
		rest := len(a) - x.To
		if x.From+rest <= len(b) && a[:x.From] == b[:x.From] && a[x.To:] == b[len(b)-rest:] {
			least = min(least, x.To-x.From+len(b)-rest-x.From)
		}
	}
	return least
}

// P1.12: Diff makes the second text of the first one, with as few bytes as possible; P1.7: From is as great as possible.
func TestDiffIsLeast(t *testing.T) {
	for a := range allTexts("ab", 5) {
		for b := range allTexts("ab", 5) {
			x, e := lex.Diff(a, b)
			if e != api.OK {
				t.Fatalf("Diff of %q and %q: %v", a, b, e)
			}
			if s, e := lex.Apply(a, x); s != b || e != api.OK {
				t.Errorf("Diff of %q and %q makes %q, %v", a, b, s, e)
			}
			if n := x.To - x.From + len(x.Put); n != leastEdit(a, b) {
				t.Errorf("Diff of %q and %q: %v, but %d bytes do", a, b, x, leastEdit(a, b))
			}
			if a[:x.From] != b[:x.From] || x.From < min(len(a), len(b)) && a[x.From] == b[x.From] {
				t.Errorf("Diff of %q and %q: from %d", a, b, x.From)
			}
		}
	}
}

// P1.8.
func TestBothOfEdits(t *testing.T) {
	for _, x := range []struct {
		s          string
		x, y, want api.Edit
	}{
		{"abc", api.Edit{From: 1, To: 2, Put: "xy"}, api.Edit{From: 2, To: 4}, api.Edit{From: 1, To: 3, Put: "x"}},
		{"abc", api.Edit{From: 1, To: 2, Put: "xy"}, api.Edit{From: 1, To: 2}, api.Edit{From: 1, To: 2, Put: "y"}},
		{"abc", api.Edit{From: 1, To: 2, Put: "xy"}, api.Edit{From: 0, To: 1}, api.Edit{From: 0, To: 2, Put: "xy"}},
		{"abc", api.Edit{From: 1, To: 2, Put: "xy"}, api.Edit{From: 3, To: 3, Put: "-"}, api.Edit{From: 1, To: 2, Put: "xy-"}},
		{"abc", api.Edit{From: 1, To: 2, Put: "xy"}, api.Edit{From: 4, To: 4, Put: "-"}, api.Edit{From: 1, To: 3, Put: "xyc-"}},
		{"abc", api.Edit{From: 2, To: 3}, api.Edit{From: 0, To: 1}, api.Edit{From: 0, To: 3, Put: "b"}},
		{"abc", api.Edit{From: 0, To: 1}, api.Edit{From: 1, To: 2}, api.Edit{From: 0, To: 3, Put: "b"}},
		{"", api.Edit{}, api.Edit{}, api.Edit{}},
		{"abc", api.Edit{From: 1, To: 1}, api.Edit{From: 2, To: 2}, api.Edit{From: 1, To: 2, Put: "b"}},
		{"abc", api.Edit{From: 1, To: 1, Put: "q"}, api.Edit{From: 1, To: 2}, api.Edit{From: 1, To: 1}},
	} {
		if got, e := lex.Both(x.s, x.x, x.y); got != x.want || e != api.OK {
			t.Errorf("Both of %q, %v and %v: %v, %v", x.s, x.x, x.y, got, e)
		}
	}
}

// P1.8: the errors and their order.
func TestBothErrors(t *testing.T) {
	for _, x := range editErrors() {
		for _, y := range []api.Edit{{}, {From: -1}, {Put: "\t"}} {
			if got, e := lex.Both(x.s, x.x, y); got != (api.Edit{}) || e != x.e {
				t.Errorf("Both of %.20q, %v and %v: %v, %v; not %v", x.s, x.x, y, got, e, x.e)
			}
		}
	}
	full := strings.Repeat("a", api.MaxText)
	for _, x := range []struct {
		x, y api.Edit
		e    api.Errno
	}{
		{api.Edit{To: 2}, api.Edit{From: 0, To: 2}, api.ErrRange},
		{api.Edit{To: 2}, api.Edit{From: 1, To: 0}, api.ErrRange},
		{api.Edit{To: 2}, api.Edit{From: -1, To: 0}, api.ErrRange},
		{api.Edit{To: 2}, api.Edit{Put: "\t"}, api.ErrForm},
		{api.Edit{To: 2}, api.Edit{Put: full}, api.ErrLimit},
		{api.Edit{To: 3, Put: full}, api.Edit{To: 1}, api.OK},
		{api.Edit{To: 3, Put: full + "a"}, api.Edit{To: 1}, api.ErrLimit},
	} {
		if got, e := lex.Both("abc", x.x, x.y); e != x.e || e != api.OK && got != (api.Edit{}) {
			t.Errorf("Both of %v and %v: %.20q, %v; not %v", x.x, x.y, got.Put, e, x.e)
		}
	}
}

// P1.12: Both does what the two do; P1.8: From and To are as said.
func TestBothAgain(t *testing.T) {
	for s := range allTexts("ab", 3) {
		for x := range allEdits(s, "", "c", "de") {
			after := applied(s, x)
			for y := range allEdits(after, "", "fg") {
				b, e := lex.Both(s, x, y)
				if e != api.OK {
					t.Fatalf("Both of %q, %v and %v: %v", s, x, y, e)
				}
				to := x.To
				if y.To >= x.From+len(x.Put) {
					to = max(to, len(s)-(len(after)-y.To))
				}
				if got, e := lex.Apply(s, b); got != applied(after, y) || e != api.OK || b.From != min(x.From, y.From) || b.To != to {
					t.Errorf("Both of %q, %v and %v: %v makes %q, %v", s, x, y, b, got, e)
				}
			}
		}
	}
}
