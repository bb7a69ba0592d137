package parse

import (
	"strings"

	"dripstone/api"
)

// leave goes on behind a flawed statement: it looks for a token, from the flaw on, with which what is around the statement can be read.
func (r *reader) leave(start int) {
	open := 0 // braces, from the statement's first token on
	for _, x := range r.tokens[start:r.next] {
		open += opened(x)
	}
	for r.next < len(r.tokens) && !r.isItem(r.next) {
		x := r.now()
		closes := x.Text == "}" && open == 0
		open += opened(x)
		if closes {
			r.going = fine
			return
		}
		r.next++
		if open == 0 && (x.Text == ";" || x.Text == "}") {
			r.going = fine
			return
		}
	}
	r.lose()
}

// lose gives an item up behind a flawed statement; if the text has ended there this is a flaw of its own.
func (r *reader) lose() {
	if r.next == len(r.tokens) {
		r.flaws = append(r.flaws, api.Flaw{At: len(r.text), E: api.ErrForm})
	}
	r.going = lost
}

// opened returns how many braces more are open behind a token than before it.
func opened(x api.Lexeme) int {
	switch x.Text {
	case "{":
		return 1
	case "}":
		return -1
	}
	return 0
}

// nextItem returns the number of the first item token from a token on, or how many tokens there are.
func (r *reader) nextItem(from int) int {
	for i := from; i < len(r.tokens); i++ {
		if r.isItem(i) {
			return i
		}
	}
	return len(r.tokens)
}

// isItem tells whether a token is an item token.
func (r *reader) isItem(i int) bool {
	x := r.tokens[i]
	switch x.Text {
	case "lattice", "use", "task":
		return x.At == 0 || strings.HasSuffix(r.text[:x.At], "\n")
	}
	return false
}
