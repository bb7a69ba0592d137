package lex_test

import (
	"iter"
	"math/rand"
	"strings"

	"dripstone/api"
	"dripstone/lex"
)

// allTexts yields all texts of some bytes up to a length, the empty one first.
func allTexts(bytes string, most int) iter.Seq[string] {
	return func(yield func(string) bool) {
		now := []string{""}
		for range most + 1 {
			var longer []string
			for _, s := range now {
				if !yield(s) {
					return
				}
				for _, c := range bytes {
					longer = append(longer, s+string(c))
				}
			}
			now = longer
		}
	}
}

// allEdits yields all edits of a text that put one of some texts.
func allEdits(s string, puts ...string) iter.Seq[api.Edit] {
	return func(yield func(api.Edit) bool) {
		for from := range len(s) + 1 {
			for to := from; to <= len(s); to++ {
				for _, put := range puts {
					if !yield(api.Edit{From: from, To: to, Put: put}) {
						return
					}
				}
			}
		}
	}
}

// someText returns a text of pieces that lie close to the borders of tokens.
func someText(r *rand.Rand, most int) string {
	pieces := []string{"a", "b1", "all", "al", "l", "0", "1", "10", "=", "<", "!", "#", "{", "}", ";", " ", " ", "\n", "%", "%x\n", "abcdefghijkl"}
	var b strings.Builder
	for range r.Intn(most) {
		b.WriteString(pieces[r.Intn(len(pieces))])
	}
	return b.String()
}

// bare returns tokens without their places.
func bare(l []api.Lexeme) []api.Lexeme {
	var out []api.Lexeme
	for _, x := range l {
		out = append(out, api.Lexeme{Kind: x.Kind, Text: x.Text})
	}
	return out
}

// written returns tokens as text, so that lists of them can be keys.
func written(l []api.Lexeme) string {
	var b strings.Builder
	for _, x := range l {
		b.WriteString(x.Text + "|")
	}
	return b.String()
}

// scanned returns the tokens of a text that has no error.
func scanned(s string) []api.Lexeme {
	l, _, e := lex.Scan(s)
	if e != api.OK {
		panic("not a right text: " + s)
	}
	return l
}

// applied returns a text after an edit that is one of it.
func applied(s string, x api.Edit) string { return s[:x.From] + x.Put + s[x.To:] }
