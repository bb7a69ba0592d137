package parse_test

import (
	"slices"
	"strings"
	"testing"

	"dripstone/api"
	"dripstone/lex"
	"dripstone/parse"
)

// grammar is that of the chapter, without brackets: words in capitals are kinds of tokens, and HOLE is where a flawed statement was left out.
const grammar = `
program -> | item program
item -> lattice NAME { elems } | use NAME ( maytypes ) ; | task NAME ( mayparams ) block
elems -> elem | elem ; elems
elem -> NAME wrong | NAME wrong : aboves
wrong -> | !
aboves -> NAME | NAME , aboves
mayparams -> | params
params -> param | param , params
param -> NAME : type
maytypes -> | types
types -> type | type , types
type -> int | shape
shape -> flag | max | set | once | NAME | map ( shape ) | pair ( shape , shape )
block -> { stmts }
stmts -> | stmt stmts
stmt -> new NAME : shape ; | share NAME : shape ; | let NAME = expr ; | put NAME point ; | spawn NAME ( mayexprs ) ; | when NAME cases | each NAME as NAME block | all block | freeze NAME as NAME ; | if expr block | if expr block else block | fail expr ; | HOLE
cases -> case | case or cases
case -> point block
mayexprs -> | exprs
exprs -> expr | expr , exprs
point -> on | expr | # NAME | { exprs } | [ expr ] point | pair ( point , ) | pair ( , point ) | pair ( point , point )
expr -> sum | sum compare sum
compare -> == | != | < | <= | > | >=
sum -> term | sum + term | sum - term
term -> unary | term * unary | term / unary
unary -> - unary | atom
atom -> NUMBER | NAME | ( expr ) | size ( NAME ) | has ( NAME , expr ) | value ( NAME , expr )
`

// production is one line of the grammar, or one choice of it.
type production struct {
	left  string
	right []string
}

func productions() []production {
	var out []production
	for _, line := range strings.Split(strings.TrimSpace(grammar), "\n") {
		left, choices, _ := strings.Cut(line, " ->")
		for _, c := range strings.Split(choices, " |") {
			out = append(out, production{left, strings.Fields(c)})
		}
	}
	return out
}

// progress is how much of a production was read, from a token on.
type progress struct{ rule, dot, from int }

// recognizer tells by the grammar alone (Earley) with which tokens it goes on.
type recognizer struct {
	rules []production
	of    map[string][]int
	empty map[string]bool
	sets  [][]progress
}

func newRecognizer() *recognizer {
	g := &recognizer{rules: productions(), of: map[string][]int{}, empty: map[string]bool{}}
	for i, p := range g.rules {
		g.of[p.left] = append(g.of[p.left], i)
		if len(p.right) == 0 {
			g.empty[p.left] = true
		}
	}
	return g
}

// symbol returns what comes next, or "".
func (g *recognizer) symbol(p progress) string {
	if right := g.rules[p.rule].right; p.dot < len(right) {
		return right[p.dot]
	}
	return ""
}

// close adds all that follows from a set of progresses behind a number of tokens.
func (g *recognizer) close(set []progress, at int) []progress {
	known := map[progress]bool{}
	var out []progress
	add := func(p progress) {
		if !known[p] {
			known[p] = true
			out = append(out, p)
		}
	}
	for _, p := range set {
		add(p)
	}
	for i := 0; i < len(out); i++ {
		p := out[i]
		s := g.symbol(p)
		for _, rule := range g.of[s] {
			add(progress{rule, 0, at})
		}
		if g.empty[s] {
			add(progress{p.rule, p.dot + 1, p.from})
		}
		if s == "" && p.from < at {
			for _, q := range g.sets[p.from] {
				if g.symbol(q) == g.rules[p.rule].left {
					add(progress{q.rule, q.dot + 1, q.from})
				}
			}
		}
	}
	return out
}

// read reads tokens from the beginning; it returns the number of the first one with which the grammar does not go on, how many there are if they end too early, or -1.
func (g *recognizer) read(l []api.Lexeme) int {
	var first []progress
	for _, rule := range g.of["program"] {
		first = append(first, progress{rule, 0, 0})
	}
	g.sets = nil
	g.sets = append(g.sets, g.close(first, 0))
	return g.readOn(l, 0)
}

// readOn is read of tokens of which a number of the first ones was read last time, too.
func (g *recognizer) readOn(l []api.Lexeme, from int) int {
	g.sets = g.sets[:from+1]
	for i := from; i < len(l); i++ {
		want := l[i].Text
		switch l[i].Kind {
		case api.NameToken:
			want = "NAME"
		case api.NumberToken:
			want = "NUMBER"
		}
		var next []progress
		for _, p := range g.sets[i] {
			if g.symbol(p) == want {
				next = append(next, progress{p.rule, p.dot + 1, p.from})
			}
		}
		if len(next) == 0 {
			return i
		}
		g.sets = append(g.sets, g.close(next, i+1))
	}
	whole := func(p progress) bool {
		return g.rules[p.rule].left == "program" && g.symbol(p) == "" && p.from == 0
	}
	if slices.ContainsFunc(g.sets[len(l)], whole) {
		return -1
	}
	return len(l)
}

// inside returns the first token of the innermost thing of a kind that is not ended before a token, or could begin with it, or -1.
func (g *recognizer) inside(left string, at int) int {
	from := -1
	known := map[progress]bool{}
	var look func(p progress)
	look = func(p progress) {
		if known[p] || g.symbol(p) == "" {
			return
		}
		known[p] = true
		mine := g.rules[p.rule].left
		if mine == left {
			from = max(from, p.from)
		}
		for _, q := range g.sets[p.from] {
			if g.symbol(q) == mine {
				look(q)
			}
		}
	}
	for _, p := range g.sets[at] {
		look(p)
	}
	return from
}

// P2.1: where the grammar does not go on, on flawed texts of all sorts.
func TestParseByGrammar(t *testing.T) {
	g := newRecognizer()
	right := 0
	for seed := range 4000 {
		s := flawedText(seed)
		l, _, e := lex.Scan(s)
		if e != api.OK {
			continue
		}
		bad := g.read(l)
		at := len(s)
		if bad >= 0 && bad < len(l) {
			at = l[bad].At
		}
		_, place, e := parse.Parse(s)
		if bad >= 0 && (place != at || e != api.ErrForm) || bad < 0 && e == api.ErrForm {
			t.Fatalf("Parse of %q: %v at %d; not at %d", s, e, place, at)
		}
		if bad < 0 {
			right++
		}
	}
	if right < 200 || right > 3800 {
		t.Errorf("%d texts are right", right)
	}
}

// P2.1: a text that ends too early has the error at its length, wherever it is cut, and with any gap behind it.
func TestParseOfBeginnings(t *testing.T) {
	l := scanned(every)
	for i, x := range l {
		s := every[:x.At] + " % gap\n"
		want, at := api.ErrForm, len(s)
		// Only between items the text can end.
		if i == 0 || x.Text == "lattice" || x.Text == "use" || x.Text == "task" {
			want, at = api.OK, 0
		}
		if _, place, e := parse.Parse(s); e != want || place != at {
			t.Errorf("Parse up to %d: %v at %d", x.At, e, place)
		}
	}
}

// P2.1: every token put in the place of every one, by the grammar.
func TestParseWithOtherTokens(t *testing.T) {
	g := newRecognizer()
	l := scanned(every)
	others := append(append(api.Keywords(), api.Signs()...), "x", "0")
	g.read(nil)
	for i, x := range l {
		for _, other := range others {
			s := every[:x.At] + " " + other + " " + every[x.At+len(x.Text):]
			changed := scanned(s)
			bad := g.readOn(changed, i)
			_, place, e := parse.Parse(s)
			switch {
			case bad < 0 && e != api.OK:
				t.Errorf("%s for token %d: %v at %d", other, i, e, place)
			case bad >= 0 && bad < len(changed) && (e != api.ErrForm || place != changed[bad].At):
				t.Errorf("%s for token %d: %v at %d, not at %d", other, i, e, place, changed[bad].At)
			case bad == len(changed) && (e != api.ErrForm || place != len(s)):
				t.Errorf("%s for token %d: %v at %d, not at the end", other, i, e, place)
			}
		}
		g.readOn(l[:i+1], i)
	}
}
