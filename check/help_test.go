package check_test

import (
	"fmt"
	"math/rand"
	"slices"
	"strings"
	"testing"

	"dripstone/api"
	"dripstone/check"
	"dripstone/order"
	"dripstone/parse"
)

// example is the document's program.
const example = "task main(n: int) { new x: set; all { spawn f(x, n); each x as k { if k > 0 { put x {k - 1}; } } } freeze x as y; fail size(y); } task f(p: set, n: int) { put p {n}; }"

// tint is a lattice of which one element is wrong.
const tint = "lattice tint { none: red, blue; red: both; blue: both; both! } "

// parsed returns the tree of a right text.
func parsed(t testing.TB, s string) api.Tree {
	t.Helper()
	x, at, e := parse.Parse(s)
	if e != api.OK {
		t.Fatalf("Parse of %q: %v at %d", s, e, at)
	}
	return x
}

// marked returns the tree of a text without its mark ^, and the node of a kind whose place is that of the mark (the node 0 without any mark).
func marked(t testing.TB, s string, kind uint8) (api.Tree, int) {
	t.Helper()
	before, after, found := strings.Cut(s, "^")
	x := parsed(t, before+after)
	if !found {
		return x, 0
	}
	for i, n := range x.Nodes {
		if i > 0 && n.Kind == kind && n.At == len(before) {
			return x, i
		}
	}
	t.Fatalf("nothing of kind %d is at the mark of %q", kind, s)
	return x, 0
}

// nodes returns the nodes of a kind.
func nodes(x api.Tree, kind uint8) []int {
	var out []int
	for i, n := range x.Nodes {
		if n.Kind == kind {
			out = append(out, i)
		}
	}
	return out
}

func isStmt(kind uint8) bool { return api.NewStmt <= kind && kind <= api.FailStmt }

func isExpr(kind uint8) bool { return api.EqNode <= kind && kind <= api.ValueNode }

func isShape(kind uint8) bool { return api.FlagType <= kind && kind <= api.PairType }

func isDeclaration(kind uint8) bool {
	return slices.Contains([]uint8{api.ParamNode, api.NewStmt, api.ShareStmt, api.LetStmt, api.BindNode}, kind)
}

func shown(x api.Tree, node int) string {
	s, _ := parse.Show(x, node)
	return s
}

// changed returns a tree with one node changed.
func changed(x api.Tree, node int, f func(*api.TreeNode)) api.Tree {
	l := slices.Clone(x.Nodes)
	f(&l[node])
	return api.Tree{Nodes: l}
}

// without returns a tree without a node.
func without(x api.Tree, node int) (api.Tree, bool) {
	y, e := parse.Splice(x, node, nil)
	return y, e == api.OK
}

// thing is what a name in sight is, where an author writes.
type thing struct {
	name  string
	kind  uint8
	shape api.Shape
}

// callee is an item that can be spawned; the Kind of the shape of an integer is 0.
type callee struct {
	name   string
	params []api.Shape
}

// author writes programs, most of which are nearly right. One choice of wild ones is any one; 0: none.
type author struct {
	*rand.Rand
	wild    int
	names   int
	tints   []string
	callees []callee
}

func (a *author) isWild() bool { return a.wild > 0 && a.Intn(a.wild) == 0 }

// fresh returns a name that was not used before, or, if it is wild, perhaps one that was.
func (a *author) fresh() string {
	if a.isWild() {
		return fmt.Sprintf("v%d", a.Intn(a.names+1))
	}
	a.names++
	return fmt.Sprintf("v%d", a.names)
}

// pick returns one of some things, or, if it is wild, any other name.
func (a *author) pick(env []thing, want func(thing) bool) (thing, bool) {
	if a.isWild() {
		want = func(thing) bool { return true }
		if a.Intn(3) == 0 {
			return thing{name: fmt.Sprintf("v%d", a.Intn(a.names+2)), shape: a.shape(1)}, true
		}
	}
	var l []thing
	for _, x := range env {
		if want(x) {
			l = append(l, x)
		}
	}
	if len(l) == 0 {
		return thing{}, false
	}
	return l[a.Intn(len(l))], true
}

func isInt(x thing) bool { return x.kind == api.TypeInt }

func isVariable(x thing) bool { return x.kind == api.TypeOwn || x.kind == api.TypeShared }

// shape returns a shape with a few levels.
func (a *author) shape(deep int) api.Shape {
	kinds := []uint8{api.ShapeSet, api.ShapeSet, api.ShapeOnce, api.ShapeMax, api.ShapeFlag, api.ShapeNamed}
	if deep > 0 {
		kinds = append(kinds, api.ShapeMap, api.ShapePair, api.ShapeMap)
	}
	s := api.Shape{Kind: kinds[a.Intn(len(kinds))]}
	switch s.Kind {
	case api.ShapeNamed:
		if len(a.tints) == 0 {
			return api.Shape{Kind: api.ShapeSet}
		}
		s.Name = a.tints[a.Intn(len(a.tints))]
	case api.ShapeMap:
		s.Kids = []api.Shape{a.shape(deep - 1)}
	case api.ShapePair:
		s.Kids = []api.Shape{a.shape(deep - 1), a.shape(deep - 1)}
	}
	return s
}

// shapeText returns the text of a shape; if it is wild, perhaps that of one with too many levels.
func (a *author) shapeText(s api.Shape) string {
	text, _ := order.ShapeText(s)
	if a.isWild() && a.isWild() {
		return "map(pair(map(map(" + text + ")), flag))"
	}
	return text
}

func (a *author) expr(env []thing, deep int) string {
	switch a.Intn(6) {
	case 0, 1:
		if x, ok := a.pick(env, isInt); ok {
			return x.name
		}
	case 2:
		if deep > 0 {
			sign := []string{"+", "-", "*", "/", "==", "<"}[a.Intn(6)]
			return fmt.Sprintf("(%s %s %s)", a.expr(env, deep-1), sign, a.expr(env, deep-1))
		}
	case 3:
		isFrozen := func(x thing) bool { return x.kind == api.TypeFrozen }
		if x, ok := a.pick(env, isFrozen); ok && deep > 0 {
			return a.frozen(x, env, deep)
		}
	case 4:
		return "-" + a.expr(env, 0)
	}
	return fmt.Sprint(a.Intn(4))
}

// frozen returns what is asked of something frozen.
func (a *author) frozen(x thing, env []thing, deep int) string {
	asks := "size(%s)"
	switch x.shape.Kind {
	case api.ShapeSet, api.ShapeMap:
		asks = []string{"size(%s)", "has(%s, %s)"}[a.Intn(2)]
	case api.ShapeMax, api.ShapeOnce:
		asks = "value(%s, %s)"
	default:
		if !a.isWild() {
			return "1"
		}
	}
	if strings.Contains(asks, ", ") {
		return fmt.Sprintf(asks, x.name, a.expr(env, deep-1))
	}
	return fmt.Sprintf(asks, x.name)
}

// number returns an expr of a point.
func (a *author) number(env []thing, constant bool) string {
	if constant && !a.isWild() {
		return []string{"0", "1", "2", "-1", "-2", "-0", "1000000000", "-1000000000"}[a.Intn(8)]
	}
	return a.expr(env, 1)
}

// point returns a point that fits a shape, or, if it is wild, any other one.
func (a *author) point(env []thing, s api.Shape, constant bool) string {
	if a.isWild() {
		s = a.shape(1)
	}
	switch s.Kind {
	case api.ShapeFlag:
		return "on"
	case api.ShapeSet:
		var l []string
		for range 1 + a.Intn(3) {
			l = append(l, a.number(env, constant))
		}
		return "{" + strings.Join(l, ", ") + "}"
	case api.ShapeNamed:
		return "#" + []string{"red", "blue", "red", "blue", "both", "none", "red", "green"}[a.Intn(8-6*min(1, a.Intn(4)))]
	case api.ShapeMap:
		return "[" + a.number(env, constant) + "] " + a.point(env, s.Kids[0], constant)
	case api.ShapePair:
		first, second := a.point(env, s.Kids[0], constant), a.point(env, s.Kids[1], constant)
		n := a.Intn(3)
		if n == 1 {
			first = ""
		}
		if n == 2 {
			second = ""
		}
		return "pair(" + first + ", " + second + ")"
	}
	return a.number(env, constant)
}

// block writes a block in which some things are in sight.
func (a *author) block(env []thing, deep int) string {
	env = slices.Clone(env)
	var b strings.Builder
	b.WriteString("{ ")
	for range a.Intn(4 + deep) {
		s, more := a.stmt(env, deep)
		b.WriteString(s + " ")
		env = append(env, more...)
	}
	b.WriteString("}")
	return b.String()
}

// stmt writes a statement, and returns what is in sight behind it, too.
func (a *author) stmt(env []thing, deep int) (string, []thing) {
	kind := a.Intn(14)
	if deep == 0 && kind >= 7 {
		kind = a.Intn(7)
	}
	switch kind {
	case 0, 1:
		word, k := "new", api.TypeOwn
		if a.Intn(4) == 0 {
			word, k = "share", api.TypeShared
		}
		x := thing{a.fresh(), k, a.shape(2)}
		return fmt.Sprintf("%s %s: %s;", word, x.name, a.shapeText(x.shape)), []thing{x}
	case 2:
		x := thing{name: a.fresh(), kind: api.TypeInt}
		return fmt.Sprintf("let %s = %s;", x.name, a.expr(env, 2)), []thing{x}
	case 3, 4:
		if x, ok := a.pick(env, isVariable); ok {
			return fmt.Sprintf("put %s %s;", x.name, a.point(env, x.shape, false)), nil
		}
	case 5, 9:
		return a.spawn(env), nil
	case 6:
		isOwn := func(x thing) bool { return x.kind == api.TypeOwn }
		if x, ok := a.pick(env, isOwn); ok {
			y := thing{a.fresh(), api.TypeFrozen, x.shape}
			return fmt.Sprintf("freeze %s as %s;", x.name, y.name), []thing{y}
		}
	case 7:
		return a.when(env, deep), nil
	case 8:
		hasKeys := func(x thing) bool {
			return x.kind == api.TypeOwn && (x.shape.Kind == api.ShapeSet || x.shape.Kind == api.ShapeMap)
		}
		if x, ok := a.pick(env, hasKeys); ok {
			k := thing{name: a.fresh(), kind: api.TypeInt}
			return fmt.Sprintf("each %s as %s %s", x.name, k.name, a.block(append(slices.Clone(env), k), deep-1)), nil
		}
	case 10:
		return "all " + a.block(env, deep-1), nil
	case 12, 13:
		return a.pool(env, deep)
	case 11:
		s := "if " + a.expr(env, 1) + " " + a.block(env, deep-1)
		if a.Intn(2) == 0 {
			s += " else " + a.block(env, deep-1)
		}
		return s, nil
	}
	return "fail " + a.expr(env, 1) + ";", nil
}

// pool writes a variable that is filled and looked at in a pool, and frozen behind it.
func (a *author) pool(env []thing, deep int) (string, []thing) {
	x := thing{a.fresh(), api.TypeOwn, a.shape(1)}
	k := thing{name: a.fresh(), kind: api.TypeInt}
	y := thing{a.fresh(), api.TypeFrozen, x.shape}
	in := append(slices.Clone(env), x)
	each := ""
	if x.shape.Kind == api.ShapeSet || x.shape.Kind == api.ShapeMap {
		each = fmt.Sprintf("each %s as %s %s ", x.name, k.name, a.block(append(in, k), deep-1))
	}
	s := fmt.Sprintf("new %s: %s; all { %s %s%s } freeze %s as %s;", x.name, a.shapeText(x.shape), a.spawn(in), each, a.spawn(in), x.name, y.name)
	return s + fmt.Sprintf(" fail %s;", a.expr([]thing{y}, 2)), []thing{y}
}

func (a *author) spawn(env []thing) string {
	c := a.callees[a.Intn(len(a.callees))]
	name := c.name
	if a.isWild() {
		name = "v0"
	}
	var l []string
	for _, p := range c.params {
		isFit := func(x thing) bool { return isVariable(x) && sameShape(x.shape, p) }
		x, ok := a.pick(env, isFit)
		switch {
		case p.Kind == 0 || !ok:
			l = append(l, a.expr(env, 1))
		default:
			l = append(l, x.name)
		}
	}
	if a.isWild() {
		l = append(l, "1")
	}
	return fmt.Sprintf("spawn %s(%s);", name, strings.Join(l, ", "))
}

func (a *author) when(env []thing, deep int) string {
	x, ok := a.pick(env, isVariable)
	if !ok {
		return "fail 1;"
	}
	text, _ := order.ShapeText(x.shape)
	cases := 1
	if strings.Contains(text, "once") || strings.Contains(text, "tint") || a.isWild() {
		cases = 1 + a.Intn(3)
	}
	var l []string
	for range cases {
		l = append(l, a.point(env, x.shape, cases > 1)+" "+a.block(env, deep-1))
	}
	return fmt.Sprintf("when %s %s", x.name, strings.Join(l, " or "))
}

func sameShape(a, b api.Shape) bool {
	return a.Kind == b.Kind && a.Name == b.Name && slices.EqualFunc(a.Kids, b.Kids, sameShape)
}

// program writes a program. Without a mistake of its own it still breaks rules of growth.
func (a *author) program() string {
	var items []string
	for range a.Intn(3) {
		name := fmt.Sprintf("tint%d", len(a.tints))
		text := strings.Replace(tint, "tint", name, 1)
		if a.isWild() {
			text = strings.Replace(text, []string{"both!", "blue: both", "red:", ": red,"}[a.Intn(4)], []string{"both", "blue: red", "red!:", ": both,"}[a.Intn(4)], 1)
		}
		if !a.isWild() {
			a.tints = append(a.tints, name)
		}
		items = append(items, text)
	}
	for i := range 1 + a.Intn(4) {
		c := callee{name: []string{"f", "main", "g", "h", "f"}[i%(5-min(1, a.wild))]}
		if a.wild == 0 {
			c.name = []string{"f", "main", "g", "h"}[i]
		}
		for range a.Intn(4) {
			p := api.Shape{}
			if a.Intn(3) > 0 {
				p = a.shape(1)
			}
			c.params = append(c.params, p)
		}
		a.callees = append(a.callees, c)
	}
	for i, c := range a.callees {
		items = append(items, a.item(c, i))
	}
	a.Shuffle(len(items), func(i, j int) { items[i], items[j] = items[j], items[i] })
	return strings.Join(items, " ")
}

// item writes a callee: some as a use, most as a task.
func (a *author) item(c callee, i int) string {
	var env []thing
	var types, params []string
	for _, p := range c.params {
		x := thing{a.fresh(), api.TypeShared, p}
		text := "int"
		if p.Kind == 0 {
			x.kind = api.TypeInt
		} else {
			text = a.shapeText(p)
		}
		env = append(env, x)
		types = append(types, text)
		params = append(params, x.name+": "+text)
	}
	if i > 0 && a.Intn(4) == 0 {
		return fmt.Sprintf("use %s(%s);", c.name, strings.Join(types, ", "))
	}
	return fmt.Sprintf("task %s(%s) %s", c.name, strings.Join(params, ", "), a.block(env, 3))
}

// written returns the tree of a program that is written with a seed.
func written(seed, wild int) api.Tree {
	r := rand.New(rand.NewSource(int64(seed)))
	for {
		a := &author{Rand: r, wild: wild}
		x, _, e := parse.Parse(a.program())
		if e == api.OK {
			return x
		}
	}
}

// mended returns a module that is left of a tree when what has an error is taken out, with what it is in.
func mended(x api.Tree) api.Tree {
	for {
		node, e := check.Module(x)
		if e == api.OK {
			return x
		}
		for {
			if y, ok := without(x, node); ok {
				x = y
				break
			}
			node, _ = parse.Up(x, node)
		}
	}
}

// spoilt returns a tree with a small change that leaves it a tree.
func spoilt(r *rand.Rand, x api.Tree) api.Tree {
	for {
		node := r.Intn(len(x.Nodes))
		y := x
		switch n := x.Nodes[node]; r.Intn(4) {
		case 0:
			if n.Text != "" {
				y = changed(x, node, func(n *api.TreeNode) { n.Text = x.Nodes[r.Intn(len(x.Nodes))].Text })
			}
		case 1:
			y, _ = without(x, node)
		case 2:
			l, _ := parse.Sub(x, r.Intn(len(x.Nodes)))
			y, _ = parse.Splice(x, node, l)
		case 3:
			y = changed(x, node, func(n *api.TreeNode) {
				others := map[uint8]uint8{api.NewStmt: api.ShareStmt, api.SetType: api.MaxType, api.OnceType: api.SetType, api.SizeNode: api.NameNode, api.HasNode: api.ValueNode, api.AddNode: api.EqNode, api.ElemNode: api.ElemNode}
				if kind, ok := others[n.Kind]; ok {
					n.Kind = kind
				}
				if n.Kind == api.ElemNode {
					n.N = 1 - n.N
				}
			})
		}
		if parse.Check(y) == api.OK {
			return y
		}
	}
}
