package tell_test

import (
	"fmt"
	"math/rand"
	"slices"
	"strings"
	"testing"

	"dripstone/api"
	"dripstone/check"
	"dripstone/order"
	"dripstone/parse"
	"dripstone/tell"
)

// example is the document's program.
const example = "task main(n: int) { new x: set; all { spawn f(x, n); each x as k { if k > 0 { put x {k - 1}; } } } freeze x as y; fail size(y); } task f(p: set, n: int) { put p {n}; }"

// tint is a lattice of which one element is wrong.
const tint = "lattice tint { none: red, blue; red: both; blue: both; both! } "

// parsed returns the tree of a right text.
func parsed(t testing.TB, s string) api.Tree {
	t.Helper()
	x, at, e := parse.Parse(s)
	if e != api.OK {
		t.Fatalf("Parse of %q: %v at %d", s, e, at)
	}
	return x
}

// program returns the tree of a text that must be a program.
func program(t testing.TB, s string) api.Tree {
	t.Helper()
	x := parsed(t, s)
	if node, e := check.Program(x); e != api.OK {
		t.Fatalf("no program: %v at %s of %s", e, shown(x, node), s)
	}
	return x
}

func shown(x api.Tree, node int) string {
	s, _ := parse.Show(x, node)
	return s
}

// without returns a tree without a node.
func without(x api.Tree, node int) (api.Tree, bool) {
	y, e := parse.Splice(x, node, nil)
	return y, e == api.OK
}

// has tells whether a tree has a node of one of some kinds.
func has(x api.Tree, kinds ...uint8) bool {
	return slices.ContainsFunc(x.Nodes, func(n api.TreeNode) bool { return slices.Contains(kinds, n.Kind) })
}

// thing is what a name in sight is, where an author writes.
type thing struct {
	name  string
	kind  uint8
	shape api.Shape
	level int // the one in which it was declared
}

// callee is a task that can be spawned; its first param is an integer.
type callee struct {
	name   string
	shapes []api.Shape
}

// author writes programs that are nearly right, and have much to do. A plain one writes no pools and freezes nothing.
type author struct {
	*rand.Rand
	names   int
	level   int
	pools   int // how many of the level are open
	plain   bool
	callees []callee
	item    int
}

func (a *author) fresh() string {
	a.names++
	return fmt.Sprintf("v%d", a.names)
}

func (a *author) pick(env []thing, want func(thing) bool) (thing, bool) {
	l := slices.DeleteFunc(slices.Clone(env), func(x thing) bool { return !want(x) })
	if len(l) == 0 {
		return thing{}, false
	}
	return l[a.Intn(len(l))], true
}

func isInt(x thing) bool { return x.kind == api.TypeInt }

func isFrozen(x thing) bool { return x.kind == api.TypeFrozen }

func isVariable(x thing) bool { return x.kind == api.TypeOwn || x.kind == api.TypeShared }

func shape(s string) api.Shape {
	x, _ := order.ParseShape(s)
	return x
}

func (a *author) shape() api.Shape {
	l := []string{"set", "set", "set", "max", "once", "flag", "tint", "map(max)", "map(set)", "pair(max, set)", "pair(flag, once)", "map(tint)"}
	return shape(l[a.Intn(len(l))])
}

func shapeText(s api.Shape) string {
	text, _ := order.ShapeText(s)
	return text
}

func (a *author) expr(env []thing, deep int) string {
	switch a.Intn(7) {
	case 0, 1:
		if x, ok := a.pick(env, isInt); ok {
			return x.name
		}
	case 2:
		if deep > 0 {
			sign := []string{"+", "-", "-", "*", "/", "==", "!=", "<", "<=", ">", ">="}[a.Intn(11)]
			return fmt.Sprintf("(%s %s %s)", a.expr(env, deep-1), sign, a.expr(env, deep-1))
		}
	case 3, 4:
		if x, ok := a.pick(env, isFrozen); ok && deep > 0 {
			return a.frozen(x, env, deep)
		}
	case 5:
		if deep > 0 {
			return "-" + a.expr(env, 0)
		}
	}
	if a.Intn(60) == 0 {
		return "1000000000"
	}
	return fmt.Sprint(a.Intn(3))
}

func (a *author) frozen(x thing, env []thing, deep int) string {
	switch x.shape.Kind {
	case api.ShapeSet, api.ShapeMap:
		if a.Intn(2) == 0 {
			return fmt.Sprintf("size(%s)", x.name)
		}
		return fmt.Sprintf("has(%s, %s)", x.name, a.expr(env, deep-1))
	case api.ShapeMax, api.ShapeOnce:
		return fmt.Sprintf("value(%s, %s)", x.name, a.expr(env, deep-1))
	}
	return "1"
}

func (a *author) number(env []thing, constant bool) string {
	if constant {
		return fmt.Sprint(a.Intn(3) - 1)
	}
	return a.expr(env, 1)
}

// point writes a point; most that are put into what can become wrong are the same.
func (a *author) point(env []thing, s api.Shape, constant bool) string {
	switch s.Kind {
	case api.ShapeFlag:
		return "on"
	case api.ShapeSet:
		var l []string
		for range 1 + a.Intn(2) {
			l = append(l, a.number(env, constant))
		}
		return "{" + strings.Join(l, ", ") + "}"
	case api.ShapeNamed:
		return []string{"#red", "#red", "#red", "#red", "#red", "#red", "#blue"}[a.Intn(7)]
	case api.ShapeOnce:
		return []string{"1", "1", "1", "1", "1", "2"}[a.Intn(6)]
	case api.ShapeMap:
		return "[" + a.number(env, constant) + "] " + a.point(env, s.Kids[0], constant)
	case api.ShapePair:
		first, second := a.point(env, s.Kids[0], constant), a.point(env, s.Kids[1], constant)
		switch a.Intn(3) {
		case 1:
			first = ""
		case 2:
			second = ""
		}
		return "pair(" + first + ", " + second + ")"
	}
	return a.number(env, constant)
}

// block writes a block, some statements of which are given.
func (a *author) block(env []thing, deep int, given ...string) string {
	env = slices.Clone(env)
	var l []string
	for range a.Intn(3 + deep) {
		s, more := a.stmt(env, deep)
		l = append(l, s)
		env = append(env, more...)
	}
	// The given ones stand anywhere.
	for _, s := range given {
		l = slices.Insert(l, a.Intn(len(l)+1), s)
	}
	return "{ " + strings.Join(l, " ") + " }"
}

// stmt writes a statement, or some, and returns what is in sight behind.
func (a *author) stmt(env []thing, deep int) (string, []thing) {
	kind := a.Intn(17)
	if deep == 0 && kind >= 9 {
		kind = a.Intn(9)
	}
	switch kind {
	case 0, 1:
		word, k := "share", api.TypeShared
		if a.Intn(3) == 0 {
			word, k = "new", api.TypeOwn
		}
		x := thing{a.fresh(), k, a.shape(), a.level}
		return fmt.Sprintf("%s %s: %s;", word, x.name, shapeText(x.shape)), []thing{x}
	case 2:
		x := thing{name: a.fresh(), kind: api.TypeInt}
		return fmt.Sprintf("let %s = %s;", x.name, a.expr(env, 2)), []thing{x}
	case 3, 4, 5, 6:
		if x, ok := a.pick(env, isVariable); ok {
			return fmt.Sprintf("put %s %s;", x.name, a.point(env, x.shape, false)), nil
		}
	case 7, 9:
		return a.spawn(env), nil
	case 10, 11:
		return a.when(env, deep), nil
	case 12:
		if !a.plain {
			return "all " + a.pooled(func() string { return a.block(env, deep-1) }), nil
		}
	case 13, 14, 16:
		if !a.plain {
			return a.pool(env, deep)
		}
	case 15:
		s := "if " + a.expr(env, 1) + " " + a.block(env, deep-1)
		if a.Intn(2) == 0 {
			s += " else " + a.block(env, deep-1)
		}
		return s, nil
	case 8:
		if a.Intn(3) == 0 {
			return "fail " + a.expr(env, 1) + ";", nil
		}
	}
	return a.spawn(env), nil
}

// pooled writes something that lies in one more pool.
func (a *author) pooled(write func() string) string {
	a.pools++
	s := write()
	a.pools--
	return s
}

// handler writes a look-out.
func (a *author) handler(x thing, env []thing, deep int) string {
	k := thing{name: a.fresh(), kind: api.TypeInt}
	level, pools := a.level, a.pools
	a.names++
	a.level, a.pools = a.names, 0
	s := fmt.Sprintf("each %s as %s %s", x.name, k.name, a.block(append(slices.Clone(env), k, k), deep-1))
	a.level, a.pools = level, pools
	return s
}

// pool writes a variable that is filled and looked at in a pool, and frozen behind it.
func (a *author) pool(env []thing, deep int) (string, []thing) {
	x := thing{a.fresh(), api.TypeOwn, a.shape(), a.level}
	y := thing{a.fresh(), api.TypeFrozen, x.shape, a.level}
	in := append(slices.Clone(env), x, x)
	block := a.pooled(func() string {
		given := []string{a.spawn(in), fmt.Sprintf("put %s %s;", x.name, a.point(in, x.shape, false))}
		for range a.Intn(3) {
			if x.shape.Kind == api.ShapeSet || x.shape.Kind == api.ShapeMap {
				given = append(given, a.handler(x, in, deep))
			}
		}
		return a.block(in, deep-1, given...)
	})
	behind := ""
	if a.Intn(3) == 0 {
		behind = fmt.Sprintf("put %s %s; ", x.name, a.point(env, x.shape, false))
	}
	s := fmt.Sprintf("new %s: %s; all %s %sfreeze %s as %s;", x.name, shapeText(x.shape), block, behind, x.name, y.name)
	if a.Intn(4) == 0 {
		s += fmt.Sprintf(" fail %s;", a.expr([]thing{y}, 2))
	}
	return s, []thing{y}
}

// spawn writes one of a task that stands behind its own, or of its own as long as an integer is left.
func (a *author) spawn(env []thing) string {
	i := a.item + a.Intn(len(a.callees)-a.item)
	c := a.callees[i]
	l := []string{a.expr(env, 1)}
	for _, s := range c.shapes {
		isFit := func(x thing) bool {
			return isVariable(x) && sameShape(x.shape, s) && (x.kind == api.TypeShared || x.level != a.level || a.pools > 0)
		}
		x, ok := a.pick(env, isFit)
		if !ok {
			return "let " + a.fresh() + " = " + a.expr(env, 1) + ";"
		}
		l = append(l, x.name)
	}
	if i == a.item {
		l[0] = "n - 1"
		return fmt.Sprintf("if n > 0 { spawn %s(%s); }", c.name, strings.Join(l, ", "))
	}
	return fmt.Sprintf("spawn %s(%s);", c.name, strings.Join(l, ", "))
}

func (a *author) when(env []thing, deep int) string {
	x, ok := a.pick(env, isVariable)
	if !ok {
		return a.spawn(env)
	}
	cases := 1
	if text := shapeText(x.shape); text == "once" || text == "tint" {
		cases = 1 + a.Intn(2)
	}
	if cases == 1 {
		return fmt.Sprintf("when %s %s %s", x.name, a.point(env, x.shape, false), a.block(env, deep-1))
	}
	points := map[uint8][]string{api.ShapeOnce: {"1", "2"}, api.ShapeNamed: {"#red", "#blue"}}[x.shape.Kind]
	return fmt.Sprintf("when %s %s %s or %s %s", x.name, points[0], a.block(env, deep-1), points[1], a.block(env, deep-1))
}

func sameShape(a, b api.Shape) bool {
	return a.Kind == b.Kind && a.Name == b.Name && slices.EqualFunc(a.Kids, b.Kids, sameShape)
}

// program writes a program whose main has one integer, n, as have all other tasks.
func (a *author) program() string {
	a.callees = []callee{{name: "main"}}
	for i := range 1 + a.Intn(3) {
		c := callee{name: []string{"f", "g", "h"}[i]}
		for range a.Intn(3) {
			c.shapes = append(c.shapes, a.shape())
		}
		a.callees = append(a.callees, c)
	}
	items := []string{tint}
	for i, c := range a.callees {
		env := []thing{{name: "n", kind: api.TypeInt}}
		params := []string{"n: int"}
		for _, s := range c.shapes {
			x := thing{a.fresh(), api.TypeShared, s, -1}
			env = append(env, x, x)
			params = append(params, x.name+": "+shapeText(s))
		}
		a.item = i
		first := ""
		if i == 0 {
			first, env = a.shared(env)
		}
		items = append(items, fmt.Sprintf("task %s(%s) { %s %s", c.name, strings.Join(params, ", "), first, a.block(env, 3)[1:]))
	}
	return strings.Join(items, " ")
}

// shared writes variables that the tasks can be given, and spawns of these.
func (a *author) shared(env []thing) (string, []thing) {
	s := ""
	for _, c := range a.callees[1:] {
		for _, shape := range c.shapes {
			x := thing{a.fresh(), api.TypeShared, shape, a.level}
			s += fmt.Sprintf("share %s: %s; ", x.name, shapeText(shape))
			env = append(env, x, x)
		}
	}
	return s + a.spawn(env) + a.spawn(env), env
}

// texts are the programs that were written, by their seeds: many tests look at the same ones.
var texts = map[[2]int]api.Tree{}

// written returns a program that is written with a seed.
func written(seed int, plain bool) api.Tree {
	key := [2]int{seed, 0}
	if plain {
		key[1] = 1
	}
	if x, ok := texts[key]; ok {
		return x
	}
	r := rand.New(rand.NewSource(int64(seed)))
	for {
		a := &author{Rand: r, plain: plain}
		x, _, e := parse.Parse(a.program())
		if e != api.OK {
			continue
		}
		if x, ok := mended(x); ok && len(x.Nodes) > 40 {
			texts[key] = x
			return x
		}
	}
}

// mended returns what is left of a tree when what has an error is taken out, if there is still a main.
func mended(x api.Tree) (api.Tree, bool) {
	for {
		node, e := check.Program(x)
		if e == api.OK {
			return x, true
		}
		if node == 0 {
			return x, false
		}
		for {
			if y, ok := without(x, node); ok {
				x = y
				break
			}
			node, _ = parse.Up(x, node)
		}
	}
}

// sample is a program with an input.
type sample struct {
	api.Tree
	in []int
}

// samples returns some programs with some inputs.
func samples(count int, plain bool) []sample {
	var out []sample
	for seed := range count {
		x := written(seed, plain)
		out = append(out, sample{x, []int{seed % 4}})
	}
	return out
}

// right returns those of some samples whose execution has no error.
func right(l []sample) []sample {
	return slices.DeleteFunc(l, func(s sample) bool {
		_, e := tell.Run(s.Tree, s.in)
		return e != api.OK
	})
}
