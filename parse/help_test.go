package parse_test

import (
	"math/rand"
	"slices"
	"strconv"
	"strings"
	"testing"

	"dripstone/api"
	"dripstone/lex"
	"dripstone/parse"
)

// every has every kind of node, as it is printed.
const every = "lattice tint { none: red, blue; red: both; blue: both; both! }\nlattice t { a }\nuse far(int, set, pair(map(flag), tint));\nuse g();\ntask main(n: int, x: set) {\n  new a: max;\n  share b: once;\n  let c = n + 1 * 2 - 3 / (4 - 5);\n  put x {1, c};\n  spawn far(c, x, x);\n  spawn g();\n  when b -1 {\n  } or 2 {\n    fail 3;\n  }\n  all {\n    each x as k {\n      put b k;\n    }\n  }\n  freeze a as d;\n  if value(d, 0) < n {\n    share e: map(pair(flag, tint));\n    put e [n] pair(on, );\n    put e [1] pair(, #red);\n    put e [2] pair(on, #blue);\n    if has(d, 1) == size(d) {\n      fail (1 != 2) <= (3 > 4);\n    }\n  } else {\n    fail 1 >= 2;\n  }\n}\n"

// plant is a tree as nodes that hold each other.
type plant struct {
	kind uint8
	n    int
	text string
	kids []plant
}

// nodes returns the nodes of a plant, with places that are all 0.
func (p plant) nodes() []api.TreeNode {
	out := []api.TreeNode{{Kind: p.kind, N: p.n, Text: p.text}}
	for _, k := range p.kids {
		out = append(out, k.nodes()...)
	}
	out[0].Size = len(out)
	return out
}

func (p plant) tree() api.Tree { return api.Tree{Nodes: p.nodes()} }

// gardener makes plants of right form that have the sizes.
type gardener struct{ *rand.Rand }

func (g gardener) name() string {
	return []string{"a", "b", "x", "y1", "main", "abcdefghijkl", "ons"}[g.Intn(7)]
}

// some returns a number of plants from least to most.
func (g gardener) some(least, most int, grow func() plant) []plant {
	var out []plant
	for range least + g.Intn(most-least+1) {
		out = append(out, grow())
	}
	return out
}

func (g gardener) leaf(kind uint8) func() plant {
	return func() plant { return plant{kind: kind, text: g.name()} }
}

func (g gardener) program() plant {
	return plant{kind: api.ProgramNode, kids: g.some(0, 4, g.item)}
}

func (g gardener) item() plant {
	switch g.Intn(5) {
	case 0:
		return plant{kind: api.LatticeItem, text: g.name(), kids: g.some(1, 4, g.elem)}
	case 1:
		return plant{kind: api.UseItem, text: g.name(), kids: g.some(0, 5, g.anyType)}
	}
	params := g.some(0, 3, func() plant { return plant{kind: api.ParamNode, text: g.name(), kids: []plant{g.anyType()}} })
	return plant{kind: api.TaskItem, text: g.name(), kids: append(params, g.block(2+g.Intn(2)))}
}

func (g gardener) elem() plant {
	return plant{kind: api.ElemNode, text: g.name(), n: g.Intn(2), kids: g.some(0, 2, g.leaf(api.AboveNode))}
}

func (g gardener) anyType() plant {
	if g.Intn(3) == 0 {
		return plant{kind: api.IntType}
	}
	return g.shape(2)
}

func (g gardener) shape(deep int) plant {
	if deep == 0 || g.Intn(2) == 0 {
		kind := []uint8{api.FlagType, api.MaxType, api.SetType, api.OnceType, api.NamedType}[g.Intn(5)]
		if kind == api.NamedType {
			return g.leaf(kind)()
		}
		return plant{kind: kind}
	}
	if g.Intn(2) == 0 {
		return plant{kind: api.MapType, kids: []plant{g.shape(deep - 1)}}
	}
	return plant{kind: api.PairType, kids: []plant{g.shape(deep - 1), g.shape(deep - 1)}}
}

func (g gardener) block(deep int) plant {
	return plant{kind: api.BlockNode, kids: g.some(0, 3, func() plant { return g.stmt(deep) })}
}

func (g gardener) stmt(deep int) plant {
	kind := api.NewStmt + uint8(g.Intn(11))
	if deep == 0 {
		kind = []uint8{api.NewStmt, api.ShareStmt, api.LetStmt, api.PutStmt, api.SpawnStmt, api.FreezeStmt, api.FailStmt}[g.Intn(7)]
	}
	p := plant{kind: kind, text: g.name()}
	bind := g.leaf(api.BindNode)
	switch kind {
	case api.NewStmt, api.ShareStmt:
		p.kids = []plant{g.shape(2)}
	case api.LetStmt:
		p.kids = []plant{g.expr(3)}
	case api.PutStmt:
		p.kids = []plant{g.point(3)}
	case api.SpawnStmt:
		p.kids = g.some(0, 3, func() plant { return g.expr(2) })
	case api.WhenStmt:
		p.kids = g.some(1, 3, func() plant {
			return plant{kind: api.CaseNode, kids: []plant{g.point(2), g.block(deep - 1)}}
		})
	case api.EachStmt:
		p.kids = []plant{bind(), g.block(deep - 1)}
	case api.AllStmt:
		p.text, p.kids = "", []plant{g.block(deep - 1)}
	case api.FreezeStmt:
		p.kids = []plant{bind()}
	case api.IfStmt:
		p.text, p.kids = "", append([]plant{g.expr(2)}, g.some(1, 2, func() plant { return g.block(deep - 1) })...)
	case api.FailStmt:
		p.text, p.kids = "", []plant{g.expr(3)}
	}
	return p
}

func (g gardener) point(deep int) plant {
	kind := api.OnPoint + uint8(g.Intn(6))
	if deep == 0 {
		kind = api.OnPoint + uint8(g.Intn(2))
	}
	switch kind {
	case api.IntPoint:
		return plant{kind: kind, kids: []plant{g.expr(deep)}}
	case api.SetPoint:
		return plant{kind: kind, kids: g.some(1, 4, func() plant { return g.expr(1) })}
	case api.NamePoint:
		return g.leaf(kind)()
	case api.KeyPoint:
		return plant{kind: kind, kids: []plant{g.expr(1), g.point(deep - 1)}}
	case api.PairPoint:
		n := 1 + g.Intn(3)
		return plant{kind: kind, n: n, kids: g.some(1+n/3, 1+n/3, func() plant { return g.point(deep - 1) })}
	}
	return plant{kind: kind}
}

func (g gardener) expr(deep int) plant {
	if deep == 0 || g.Intn(4) == 0 {
		switch g.Intn(3) {
		case 0:
			return g.leaf(api.SizeNode)()
		case 1:
			return g.leaf(api.NameNode)()
		}
		return plant{kind: api.NumNode, n: []int{0, 1, 7, 42, api.MaxNumber}[g.Intn(5)]}
	}
	switch kind := api.EqNode + uint8(g.Intn(13)); kind {
	case api.NegNode:
		return plant{kind: kind, kids: []plant{g.expr(deep - 1)}}
	case api.NegNode + 1, api.NegNode + 2:
		return plant{kind: api.HasNode + kind - api.NegNode - 1, text: g.name(), kids: []plant{g.expr(deep - 1)}}
	default:
		return plant{kind: kind, kids: []plant{g.expr(deep - 1), g.expr(deep - 1)}}
	}
}

// smallPlant returns a program that is printed within the limits.
func smallPlant(seed int) plant {
	g := gardener{rand.New(rand.NewSource(int64(seed)))}
	for {
		p := g.program()
		if s := newWriter(nil).text(p); len(s) <= 1200 && len(p.nodes()) <= api.MaxNodes && len(scanned(s)) <= api.MaxTokens {
			return p
		}
	}
}

// part is where a node is in the tokens that are written for it, and which one of these is its own.
type part struct{ from, to, own int }

// writer writes plants as tokens, and notes where the nodes are. With random numbers it writes more brackets than are needed, and gaps of all sorts.
type writer struct {
	*rand.Rand
	tokens []string
	parts  []part
	at     []int
}

func newWriter(r *rand.Rand) *writer { return &writer{Rand: r} }

func (w *writer) put(texts ...string) { w.tokens = append(w.tokens, texts...) }

// list writes plants with a token between two of them.
func (w *writer) list(l []plant, between string) {
	for i, p := range l {
		if i > 0 {
			w.put(between)
		}
		w.plant(p)
	}
}

// plant writes a plant, without brackets around it.
func (w *writer) plant(p plant) {
	number := len(w.parts)
	w.parts = append(w.parts, part{})
	x := part{from: len(w.tokens), own: len(w.tokens)}
	if sign, ok := signOf(p.kind); ok {
		w.operand(p.kids[0])
		x.own = len(w.tokens)
		w.put(sign)
		w.operand(p.kids[1])
	} else {
		w.other(p)
	}
	x.to = len(w.tokens)
	w.parts[number] = x
}

func signOf(kind uint8) (string, bool) {
	sign, ok := map[uint8]string{api.EqNode: "==", api.NeNode: "!=", api.LtNode: "<", api.LeNode: "<=", api.GtNode: ">", api.GeNode: ">=", api.AddNode: "+", api.SubNode: "-", api.MulNode: "*", api.DivNode: "/"}[kind]
	return sign, ok
}

// operand writes an operand: one that has operands itself always stands in brackets.
func (w *writer) operand(p plant) {
	if _, ok := signOf(p.kind); ok {
		w.put("(")
		w.expr(p)
		w.put(")")
		return
	}
	w.expr(p)
}

// expr writes an expr, perhaps in brackets.
func (w *writer) expr(p plant) {
	many := 0
	if w.Rand != nil && w.Intn(4) == 0 {
		many = 1 + w.Intn(2)
	}
	w.put(slices.Repeat([]string{"("}, many)...)
	w.plant(p)
	w.put(slices.Repeat([]string{")"}, many)...)
}

func (w *writer) exprs(l []plant) {
	for i, p := range l {
		if i > 0 {
			w.put(",")
		}
		w.expr(p)
	}
}

// other writes a plant that is no expr with two operands.
func (w *writer) other(p plant) {
	switch p.kind {
	case api.ProgramNode:
		for _, k := range p.kids {
			w.plant(k)
		}
	case api.LatticeItem:
		w.put("lattice", p.text, "{")
		w.list(p.kids, ";")
		w.put("}")
	case api.UseItem:
		w.put("use", p.text, "(")
		w.list(p.kids, ",")
		w.put(")", ";")
	case api.TaskItem:
		block := len(p.kids) - 1
		w.put("task", p.text, "(")
		w.list(p.kids[:block], ",")
		w.put(")")
		w.plant(p.kids[block])
	case api.ElemNode:
		w.put(p.text)
		if p.n == 1 {
			w.put("!")
		}
		if len(p.kids) > 0 {
			w.put(":")
		}
		w.list(p.kids, ",")
	case api.ParamNode:
		w.put(p.text, ":")
		w.plant(p.kids[0])
	case api.AboveNode, api.BindNode, api.NamedType, api.NameNode:
		w.put(p.text)
	case api.IntType:
		w.put("int")
	case api.FlagType:
		w.put("flag")
	case api.MaxType:
		w.put("max")
	case api.SetType:
		w.put("set")
	case api.OnceType:
		w.put("once")
	case api.MapType, api.PairType:
		w.put(map[uint8]string{api.MapType: "map", api.PairType: "pair"}[p.kind], "(")
		w.list(p.kids, ",")
		w.put(")")
	default:
		if p.kind < api.OnPoint {
			w.stmt(p)
		} else {
			w.value(p)
		}
	}
}

func (w *writer) stmt(p plant) {
	switch p.kind {
	case api.BlockNode:
		w.put("{")
		for _, k := range p.kids {
			w.plant(k)
		}
		w.put("}")
	case api.CaseNode:
		w.plant(p.kids[0])
		w.plant(p.kids[1])
	case api.NewStmt, api.ShareStmt:
		w.put(map[uint8]string{api.NewStmt: "new", api.ShareStmt: "share"}[p.kind], p.text, ":")
		w.plant(p.kids[0])
		w.put(";")
	case api.LetStmt:
		w.put("let", p.text, "=")
		w.exprs(p.kids)
		w.put(";")
	case api.PutStmt:
		w.put("put", p.text)
		w.plant(p.kids[0])
		w.put(";")
	case api.SpawnStmt:
		w.put("spawn", p.text, "(")
		w.exprs(p.kids)
		w.put(")", ";")
	case api.WhenStmt:
		w.put("when", p.text)
		w.list(p.kids, "or")
	case api.EachStmt:
		w.put("each", p.text, "as")
		w.plant(p.kids[0])
		w.plant(p.kids[1])
	case api.AllStmt:
		w.put("all")
		w.plant(p.kids[0])
	case api.FreezeStmt:
		w.put("freeze", p.text, "as")
		w.plant(p.kids[0])
		w.put(";")
	case api.IfStmt:
		w.put("if")
		w.expr(p.kids[0])
		w.list(p.kids[1:], "else")
	case api.FailStmt:
		w.put("fail")
		w.exprs(p.kids)
		w.put(";")
	}
}

func (w *writer) value(p plant) {
	switch p.kind {
	case api.OnPoint:
		w.put("on")
	case api.IntPoint:
		w.expr(p.kids[0])
	case api.SetPoint:
		w.put("{")
		w.exprs(p.kids)
		w.put("}")
	case api.NamePoint:
		w.put("#", p.text)
	case api.KeyPoint:
		w.put("[")
		w.expr(p.kids[0])
		w.put("]")
		w.plant(p.kids[1])
	case api.PairPoint:
		w.put("pair", "(")
		if p.n == 2 {
			w.put(",")
		}
		w.list(p.kids, ",")
		if p.n == 1 {
			w.put(",")
		}
		w.put(")")
	case api.NegNode:
		w.put("-")
		w.operand(p.kids[0])
	case api.NumNode:
		w.put(strconv.Itoa(p.n))
	case api.SizeNode:
		w.put("size", "(", p.text, ")")
	case api.HasNode, api.ValueNode:
		w.put(map[uint8]string{api.HasNode: "has", api.ValueNode: "value"}[p.kind], "(", p.text, ",")
		w.expr(p.kids[0])
		w.put(")")
	}
}

// text returns what is written for a plant, with gaps between the tokens.
func (w *writer) text(p plant) string {
	w.plant(p)
	return w.laid()
}

// laid lays the tokens out, and notes where they are.
func (w *writer) laid() string {
	var b strings.Builder
	w.at = nil
	for i, x := range w.tokens {
		gap := " "
		if w.Rand != nil {
			gap = []string{"", "", " ", "  ", "\n", "%{;\n", " % x\n "}[w.Intn(7)]
		}
		if i > 0 && gap == "" && mustPart(w.tokens[i-1], x) {
			gap = " "
		}
		b.WriteString(gap)
		w.at = append(w.at, b.Len())
		b.WriteString(x)
	}
	if w.Rand != nil && w.Intn(2) == 0 {
		b.WriteString("\n% end")
	}
	return b.String()
}

// mustPart tells whether two tokens would be read in another way without a gap.
func mustPart(a, b string) bool {
	l, _, e := lex.Scan(a + b)
	return e != api.OK || len(l) != 2 || l[0].Text != a
}

// places returns the places of the nodes that were written, and their ranges.
func (w *writer) places() ([]int, []api.Stretch) {
	var at []int
	var spans []api.Stretch
	for i, x := range w.parts {
		switch {
		case x.from == x.to: // a program without items
			at, spans = append(at, 0), append(spans, api.Stretch{})
			continue
		case i == 0:
			at = append(at, 0)
		default:
			at = append(at, w.at[x.own])
		}
		spans = append(spans, api.Stretch{From: w.at[x.from], To: w.at[x.to-1] + len(w.tokens[x.to-1])})
	}
	return at, spans
}

// flawedText returns the text of a program with a few tokens changed, put in, or taken away; sometimes with none.
func flawedText(seed int) string {
	r := rand.New(rand.NewSource(int64(seed)))
	w := newWriter(r)
	w.plant(smallPlant(r.Intn(1 << 30)))
	others := append(append(api.Keywords(), api.Signs()...), "x", "0", ";", "}", "{", "task", "use", "lattice", "}", ";")
	for range r.Intn(4) {
		if len(w.tokens) == 0 {
			break
		}
		i := r.Intn(len(w.tokens))
		switch r.Intn(4) {
		case 0:
			w.tokens = slices.Delete(w.tokens, i, min(i+1+r.Intn(2), len(w.tokens)))
		case 1:
			w.tokens = slices.Insert(w.tokens, i, others[r.Intn(len(others))])
		case 2:
			w.tokens[i] = others[r.Intn(len(others))]
		case 3:
			// Where these fit in, the sizes are passed.
			more := []string{w.tokens[i], ","}
			if i > 0 && slices.Contains([]string{"{", "}", ";"}, w.tokens[i-1]) {
				more = []string{"all", "{", "}"}
			}
			w.tokens = slices.Insert(w.tokens, i, slices.Repeat(more, 9+r.Intn(5))...)
		}
	}
	return w.laid()
}

// scanned returns the tokens of a right text.
func scanned(s string) []api.Lexeme {
	l, _, e := lex.Scan(s)
	if e == api.ErrForm {
		panic("not a right text: " + s)
	}
	return l
}

// parsed returns the tree of a right text.
func parsed(t *testing.T, s string) api.Tree {
	t.Helper()
	x, at, e := parse.Parse(s)
	if e != api.OK || at != 0 {
		t.Fatalf("Parse of %q: %v at %d", s, e, at)
	}
	return x
}

// printed returns the text of a right tree.
func printed(t *testing.T, x api.Tree) string {
	t.Helper()
	s, e := parse.Print(x)
	if e != api.OK {
		t.Fatalf("Print of %v: %v", x, e)
	}
	return s
}

// bare returns nodes without places.
func bare(l []api.TreeNode) []api.TreeNode {
	l = slices.Clone(l)
	for i := range l {
		l[i].At = 0
	}
	return l
}
