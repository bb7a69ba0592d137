package parse

import (
	"slices"

	"dripstone/api"
	"dripstone/lex"
)

// course is how reading goes.
type course int

const (
	fine  course = iota // the grammar went on with all tokens so far
	stuck               // it does not go on with the next one
	lost                // the item cannot be gone on with
)

// reader reads the tokens of a text. It only reads while its course is fine: a call that is made later reads nothing, and its answer has no meaning.
type reader struct {
	text   string
	tokens []api.Lexeme
	next   int
	going  course
	flaws  []api.Flaw
	stmts  map[string]func(*reader) branch // by their first token
}

// newReader returns a reader of a text, with the errors of lex.Scan.
func newReader(s string) (*reader, int, api.Errno) {
	l, at, e := lex.Scan(s)
	if e != api.OK {
		return nil, at, e
	}
	return &reader{text: s, tokens: l, stmts: statements()}, 0, api.OK
}

// now returns the next token; at the end of the text it is one of no kind.
func (r *reader) now() api.Lexeme {
	if r.next < len(r.tokens) {
		return r.tokens[r.next]
	}
	return api.Lexeme{At: len(r.text)}
}

// sees tells whether the next token has one of some texts. (No two kinds of tokens have the same text.)
func (r *reader) sees(texts ...string) bool {
	return r.going == fine && slices.Contains(texts, r.now().Text)
}

// seesA tells whether the next token is of a kind.
func (r *reader) seesA(kind uint8) bool {
	return r.going == fine && r.now().Kind == kind
}

// stop notes that the grammar does not go on with the next token, or that the text ends too early.
func (r *reader) stop() {
	if r.going != fine {
		return
	}
	r.flaws = append(r.flaws, api.Flaw{At: r.now().At, E: api.ErrForm})
	r.going = stuck
	if r.next == len(r.tokens) {
		r.going = lost
	}
}

// skip reads the next token if it has one of some texts, and tells whether it did.
func (r *reader) skip(texts ...string) bool {
	if !r.sees(texts...) {
		return false
	}
	r.next++
	return true
}

// must reads a token that has one of some texts, and returns its number.
func (r *reader) must(texts ...string) int {
	from := r.next
	if !r.skip(texts...) {
		r.stop()
	}
	return from
}

// mustA reads a token of a kind, and returns its text.
func (r *reader) mustA(kind uint8) string {
	if !r.seesA(kind) {
		r.stop()
		return ""
	}
	text := r.now().Text
	r.next++
	return text
}

// name reads a name.
func (r *reader) name() string { return r.mustA(api.NameToken) }

// list reads one thing or more, with a token between two of them.
func (r *reader) list(between string, read func() branch) []branch {
	l := []branch{read()}
	for r.skip(between) {
		l = append(l, read())
	}
	return l
}

// args reads things in round brackets, with commas between them; there can be none.
func (r *reader) args(read func() branch) []branch {
	var l []branch
	r.must("(")
	if !r.sees(")") {
		l = r.list(",", read)
	}
	r.must(")")
	return l
}

// node returns the node that was read from a token on, up to the next one.
func (r *reader) node(kind uint8, from int, text string, kids ...branch) branch {
	if r.going != fine {
		return branch{}
	}
	last := r.tokens[r.next-1]
	span := api.Stretch{From: r.tokens[from].At, To: last.At + len(last.Text)}
	return grown(api.TreeNode{Kind: kind, Text: text, At: span.From}, span, kids)
}

// named reads a node that is a name, and nothing more.
func (r *reader) named(kind uint8) branch {
	from := r.next
	text := r.name()
	return r.node(kind, from, text)
}
