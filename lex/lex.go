// Package lex is layer 1: it reads texts into tokens, says where something stands, and what an edit does to a text and to its tokens (shared/doc/01-lex.md).
package lex

import (
	"strings"

	"dripstone/api"
)

// Scan returns the tokens of a text, or the place of its first error and this error.
func Scan(s string) ([]api.Lexeme, int, api.Errno) {
	if at, e := fault(s); e != api.OK {
		return nil, at, e
	}
	return newReader().tokens(blanked(s))
}

// Kind returns the kind of the token that a text is.
func Kind(text string) (uint8, api.Errno) {
	kind := newReader().kind(text)
	if kind == 0 {
		return 0, api.ErrForm
	}
	return kind, api.OK
}

// Join returns the bare text of tokens.
func Join(l []api.Lexeme) (string, api.Errno) {
	if len(l) > api.MaxTokens {
		return "", api.ErrLimit
	}
	r := newReader()
	if !every(l, func(x api.Lexeme) bool { return x.Kind != 0 && r.kind(x.Text) == x.Kind }) {
		return "", api.ErrForm
	}
	s := r.bare(l)
	if len(s) > api.MaxText {
		return "", api.ErrLimit
	}
	return s, api.OK
}

// bare returns the bare text of right tokens.
func (r reader) bare(l []api.Lexeme) string {
	var b strings.Builder
	for i, x := range l {
		if i > 0 && r.mustPart(l[i-1].Text, x.Text) {
			b.WriteByte(' ')
		}
		b.WriteString(x.Text)
	}
	return b.String()
}

// mustPart tells whether a token is not read as it is if another one follows it at once.
func (r reader) mustPart(first, second string) bool {
	x, ok := r.token(first+second, 0)
	return !ok || x.Text != first
}
