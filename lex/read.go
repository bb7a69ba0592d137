package lex

import (
	"slices"
	"strconv"
	"strings"

	"dripstone/api"
)

// class is what a byte can be part of.
type class int

const (
	other class = iota
	letter
	digit
	gap
)

// classOf returns the class of a byte of a text without comments.
func classOf(c byte) class {
	switch {
	case 'a' <= c && c <= 'z':
		return letter
	case '0' <= c && c <= '9':
		return digit
	case c == ' ' || c == '\n':
		return gap
	}
	return other
}

// behind returns where the longest stretch of bytes of some classes ends that begins at a place.
func behind(s string, at int, some ...class) int {
	for i := range len(s) - at {
		if !slices.Contains(some, classOf(s[at+i])) {
			return at + i
		}
	}
	return len(s)
}

// fault returns the first error of a text, and its place.
func fault(s string) (int, api.Errno) {
	if len(s) > api.MaxText {
		return 0, api.ErrLimit
	}
	right := func(_ int, c byte) bool { return c == '\n' || ' ' <= c && c <= '~' }
	if at := leading([]byte(s), right); at < len(s) {
		return at, api.ErrForm
	}
	return 0, api.OK
}

// reader reads tokens: it knows those that are neither names nor numbers.
type reader struct {
	words map[string]bool
	signs []string
}

func newReader() reader {
	r := reader{words: map[string]bool{}, signs: api.Signs()}
	for _, word := range api.Keywords() {
		r.words[word] = true
	}
	return r
}

// tokens returns the tokens of a text without comments, or the place of the first error.
func (r reader) tokens(s string) ([]api.Lexeme, int, api.Errno) {
	var l []api.Lexeme
	for at := behind(s, 0, gap); at < len(s); at = behind(s, at, gap) {
		x, ok := r.token(s, at)
		if !ok {
			return nil, at, api.ErrForm
		}
		if len(l) == api.MaxTokens {
			return nil, at, api.ErrLimit
		}
		l = append(l, x)
		at += len(x.Text)
	}
	return l, 0, api.OK
}

// kind returns the kind of the token that the whole of a text is, or 0 if it is none.
func (r reader) kind(text string) uint8 {
	if text == "" {
		return 0
	}
	x, ok := r.token(text, 0)
	if !ok || x.Text != text {
		return 0
	}
	return x.Kind
}

// token returns the token that begins at a place in a text, before its end; it is false if there is none.
func (r reader) token(s string, at int) (api.Lexeme, bool) {
	var kind uint8
	var text string
	switch classOf(s[at]) {
	case letter:
		text = s[at:behind(s, at, letter, digit)]
		kind = r.wordKind(text)
	case digit:
		text = s[at:behind(s, at, digit)]
		kind = numberKind(text)
	default:
		text = r.sign(s[at:])
		kind = signKind(text)
	}
	if kind == 0 {
		return api.Lexeme{}, false
	}
	return api.Lexeme{Kind: kind, Text: text, At: at}, true
}

// wordKind returns the kind of a letter with letters and digits behind it, or 0 if it is too long.
func (r reader) wordKind(text string) uint8 {
	if r.words[text] {
		return api.WordToken
	}
	if len(text) <= api.MaxName {
		return api.NameToken
	}
	return 0
}

// numberKind returns the kind of digits, or 0 if they are no number.
func numberKind(text string) uint8 {
	n, err := strconv.Atoi(text)
	if err != nil || n > api.MaxNumber || text[0] == '0' && text != "0" {
		return 0
	}
	return api.NumberToken
}

// sign returns the longest of the signs with which a text begins; longer ones are listed first.
func (r reader) sign(s string) string {
	i := leading(r.signs, func(_ int, sign string) bool { return !strings.HasPrefix(s, sign) })
	if i == len(r.signs) {
		return ""
	}
	return r.signs[i]
}

// signKind returns the kind of a sign, or 0 if there is none.
func signKind(text string) uint8 {
	if text == "" {
		return 0
	}
	return api.SignToken
}
