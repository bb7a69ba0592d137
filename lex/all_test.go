package lex_test

import (
	"fmt"
	"math"
	"slices"
	"strings"
	"testing"

	"dripstone/api"
	"dripstone/lex"
)

// everyCall calls all functions with texts and numbers of all sorts, and returns what they answer.
func everyCall(s, put string, from, to int) string {
	var b strings.Builder
	say := func(l ...any) { fmt.Fprintf(&b, "%v\n", l) }
	x := api.Edit{From: from, To: to, Put: put}
	l, at, e := lex.Scan(s)
	say(l, at, e)
	kind, e := lex.Kind(s)
	say(kind, e)
	joined, e := lex.Join(append(l, api.Lexeme{Kind: uint8(from), Text: put}))
	say(joined, e)
	w, e := lex.Where(s, from)
	say(w, e)
	at, e = lex.At(s, api.Where{Line: from, Column: to})
	say(at, e)
	c, at, e := lex.Comments(s)
	say(c, at, e)
	blank, at, e := lex.Blank(s)
	say(blank, at, e)
	after, e := lex.Apply(s, x)
	say(after, e)
	undo, e := lex.Undo(s, x)
	say(undo, e)
	diff, e := lex.Diff(s, put)
	say(diff, e)
	both, e := lex.Both(s, x, api.Edit{From: to, To: from, Put: s})
	say(both, e)
	change, at, e := lex.Rescan(s, x)
	say(change, at, e)
	patched, e := lex.Patch(l, x, api.Change{Head: from, Tail: to, New: l})
	say(patched, e)
	return b.String()
}

// P1, P2: no call panics, whatever the arguments; equal ones get equal results.
func TestEveryCallAnswers(t *testing.T) {
	all := make([]byte, 256)
	for i := range all {
		all[i] = byte(i)
	}
	texts := []string{"", "a", " ", "%", "\n", "=", "0", "00", "&", "\x00", "a b", "when x {1} {} or {2} {}", string(all), "\xff\xfe", "ä", strings.Repeat("a", 2500), strings.Repeat("0", 2501), strings.Repeat("a ", 901), strings.Repeat("%\n", 4000)}
	numbers := []int{math.MinInt, -1, 0, 1, 2, 900, 2500, 2501, math.MaxInt}
	for _, s := range texts {
		for _, put := range []string{"", "a", "%", "=\n", "&", "\x00", strings.Repeat("b", 2500), strings.Repeat("; ", 1300)} {
			for _, from := range numbers {
				for _, to := range numbers {
					if everyCall(s, put, from, to) != everyCall(s, put, from, to) {
						t.Errorf("not the same twice: %.20q, %.20q, %d, %d", s, put, from, to)
					}
				}
			}
		}
	}
}

// roomy returns a list with spare room that is not empty, and the whole of it.
func roomy(l []api.Lexeme) (list, whole []api.Lexeme) {
	whole = append(slices.Clone(l), api.Lexeme{Kind: 77, Text: "spare", At: 77}, api.Lexeme{Kind: 78, Text: "spare", At: 78})
	return whole[:len(l)], whole
}

// P2: lists that are passed stay as they are, and so does their spare room; results are other memory.
func TestListsStay(t *testing.T) {
	l, wholeL := roomy(scanned("a bc = 1; put"))
	more, wholeMore := roomy(scanned("all {}"))
	keepL, keepMore := slices.Clone(wholeL), slices.Clone(wholeMore)
	if _, e := lex.Join(l); e != api.OK {
		t.Errorf("Join: %v", e)
	}
	for _, c := range []api.Change{{Head: 2, Tail: 3, New: more}, {Head: 6}, {Tail: 6}, {New: more}, {Head: 3, Tail: 3}, {Head: 9, New: more}} {
		out, _ := lex.Patch(l, api.Edit{From: 3, To: 4, Put: "xyz"}, c)
		for i := range out {
			out[i] = api.Lexeme{Kind: 99, Text: "changed", At: 99}
		}
		for i := range cap(out) - len(out) {
			out[:cap(out)][len(out)+i].At = 99
		}
		if !slices.Equal(wholeL, keepL) || !slices.Equal(wholeMore, keepMore) {
			t.Fatalf("Patch of %v: an argument has changed", c)
		}
	}
}

// R3: nil and empty lists are the same.
func TestNilAndEmpty(t *testing.T) {
	for _, l := range [][]api.Lexeme{nil, {}} {
		if s, e := lex.Join(l); s != "" || e != api.OK {
			t.Errorf("Join of nothing: %q, %v", s, e)
		}
		for _, more := range [][]api.Lexeme{nil, {}} {
			if out, e := lex.Patch(l, api.Edit{}, api.Change{New: more}); len(out) != 0 || e != api.OK {
				t.Errorf("Patch of nothing: %v, %v", out, e)
			}
		}
	}
}
