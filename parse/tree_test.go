package parse_test

import (
	"math"
	"math/rand"
	"slices"
	"testing"

	"dripstone/api"
	"dripstone/parse"
)

// seat is where a node is in a plant.
type seat struct {
	plant plant
	up    int
	path  []int
	kids  []int
}

// seats returns where the nodes of a plant are, in their order.
func seats(p plant) []seat {
	var out []seat
	var sit func(p plant, up int, path []int)
	sit = func(p plant, up int, path []int) {
		number := len(out)
		out = append(out, seat{plant: p, up: up, path: path})
		for i, k := range p.kids {
			out[number].kids = append(out[number].kids, len(out))
			sit(k, number, append(slices.Clone(path), i))
		}
	}
	sit(p, -1, nil)
	return out
}

// P2.5, P2.12: kids, nodes above, paths, and nodes with paths.
func TestNodesOfTrees(t *testing.T) {
	for seed := range 100 {
		p := smallPlant(seed + 50000)
		x := p.tree()
		for i, want := range seats(p) {
			l, e := parse.Kids(x, i)
			up, f := parse.Up(x, i)
			path, g := parse.Path(x, i)
			node, h := parse.Node(x, want.path)
			if !slices.Equal(l, want.kids) || up != want.up || !slices.Equal(path, want.path) || node != i || e != api.OK || f != api.OK || g != api.OK || h != api.OK {
				t.Fatalf("%v, %d: %v %v, %d %v, %v %v, %d %v", x, i, l, e, up, f, path, g, node, h)
			}
			for _, number := range []int{len(want.kids), len(want.kids) + 1, -1, math.MinInt, math.MaxInt} {
				for _, more := range [][]int{nil, {0}} {
					none := append(append(slices.Clone(want.path), number), more...)
					if node, e := parse.Node(x, none); node != 0 || e != api.ErrNone {
						t.Fatalf("Node of %v with %v: %d, %v", x, none, node, e)
					}
				}
			}
		}
	}
}

// P2.5, P2.7: nodes that there are not, and trees that are none; the order of the errors.
func TestNodeErrors(t *testing.T) {
	x := parsed(t, "task main() { new x: set; put x {1}; }")
	wrong := changed(x, 7, func(n *api.TreeNode) { n.N = -1 })
	deep := chain(26).tree()
	great := api.Tree{Nodes: make([]api.TreeNode, api.MaxNodes+1)}
	for _, c := range []struct {
		tree api.Tree
		node int
		e    api.Errno
	}{
		{x, -1, api.ErrNone}, {x, 8, api.ErrNone}, {x, math.MinInt, api.ErrNone}, {x, math.MaxInt, api.ErrNone},
		{api.Tree{}, 0, api.ErrForm}, {wrong, 0, api.ErrForm}, {wrong, -1, api.ErrForm}, {deep, 0, api.ErrLimit}, {deep, 99, api.ErrLimit}, {great, 0, api.ErrLimit}, {great, -1, api.ErrLimit},
	} {
		if l, e := parse.Kids(c.tree, c.node); l != nil || e != c.e {
			t.Errorf("Kids of %d: %v, %v", c.node, l, e)
		}
		if up, e := parse.Up(c.tree, c.node); up != 0 || e != c.e {
			t.Errorf("Up of %d: %v, %v", c.node, up, e)
		}
		if path, e := parse.Path(c.tree, c.node); path != nil || e != c.e {
			t.Errorf("Path of %d: %v, %v", c.node, path, e)
		}
		if node, e := parse.Node(c.tree, []int{c.node}); node != 0 || e != c.e {
			t.Errorf("Node of %d: %v, %v", c.node, node, e)
		}
		if l, e := parse.Sub(c.tree, c.node); l != nil || e != c.e {
			t.Errorf("Sub of %d: %v, %v", c.node, l, e)
		}
		if y, e := parse.Splice(c.tree, c.node, great.Nodes); y.Nodes != nil || e != c.e {
			t.Errorf("Splice of %d: %v, %v", c.node, y, e)
		}
	}
	if node, e := parse.Node(wrong, []int{9}); node != 0 || e != api.ErrForm {
		t.Errorf("Node of a wrong tree: %d, %v", node, e)
	}
}

// P2.7: what stands in the place of a node, and the Sizes above it.
func TestSplicePlants(t *testing.T) {
	g := gardener{rand.New(rand.NewSource(3))}
	done := 0
	for seed := range 60 {
		p := smallPlant(seed + 60000)
		x := p.tree()
		for i, s := range seats(p) {
			var by plant
			switch {
			case i == 0:
				by = g.program()
			case s.plant.kind >= api.EqNode:
				by = g.expr(2)
			case s.plant.kind >= api.OnPoint:
				by = g.point(2)
			case s.plant.kind >= api.NewStmt:
				by = g.stmt(1)
			case s.plant.kind >= api.FlagType:
				by = g.shape(2)
			case s.plant.kind == api.BlockNode:
				by = g.block(1)
			default:
				continue
			}
			y, e := parse.Splice(x, i, by.nodes())
			want := planted(p, s.path, by).tree()
			if e != parse.Check(want) || e == api.OK && !slices.Equal(y.Nodes, want.Nodes) {
				t.Fatalf("Splice of %v, %d, %v: %v, %v", x, i, by.nodes(), y, e)
			}
			if e != api.OK {
				continue
			}
			done++
			// P2.12: there and back.
			old, e := parse.Sub(x, i)
			back, f := parse.Splice(y, i, old)
			same, h := parse.Splice(x, i, old)
			if !slices.Equal(old, s.plant.nodes()) || !slices.Equal(back.Nodes, x.Nodes) || !slices.Equal(same.Nodes, x.Nodes) || e != api.OK || f != api.OK || h != api.OK {
				t.Fatalf("Sub and Splice of %v, %d: %v %v, %v %v, %v %v", x, i, old, e, back, f, same, h)
			}
		}
	}
	if done < 1000 {
		t.Errorf("only %d done", done)
	}
}

// planted returns a plant with another one at the end of a path.
func planted(p plant, path []int, by plant) plant {
	if len(path) == 0 {
		return by
	}
	p.kids = slices.Clone(p.kids)
	p.kids[path[0]] = planted(p.kids[path[0]], path[1:], by)
	return p
}

// P2.7: no node, several ones, and the errors of what stands there then.
func TestSpliceCases(t *testing.T) {
	x := parsed(t, "use f(int, set);\ntask g() {\n  fail 1;\n}\n")
	fail := []api.TreeNode{{Kind: api.FailStmt, Size: 2}, num(2, 9)}
	for _, c := range []struct {
		node int
		by   []api.TreeNode
		want string
		e    api.Errno
	}{
		{1, nil, "task g() {\n  fail 1;\n}\n", api.OK},
		{1, []api.TreeNode{}, "task g() {\n  fail 1;\n}\n", api.OK},
		{2, nil, "use f(set);\ntask g() {\n  fail 1;\n}\n", api.OK},
		{3, nil, "use f(int);\ntask g() {\n  fail 1;\n}\n", api.OK},
		{4, nil, "use f(int, set);\n", api.OK},
		{6, nil, "use f(int, set);\ntask g() {\n}\n", api.OK},
		{6, slices.Repeat(fail, 3), "use f(int, set);\ntask g() {\n  fail 2;\n  fail 2;\n  fail 2;\n}\n", api.OK},
		{2, slices.Repeat([]api.TreeNode{node(api.MaxType, 0, 1)}, 4), "use f(max, max, max, max, set);\ntask g() {\n  fail 1;\n}\n", api.OK},
		{2, slices.Repeat([]api.TreeNode{node(api.MaxType, 0, 1)}, 5), "", api.ErrForm},
		{0, nil, "", api.ErrForm},
		{0, []api.TreeNode{node(api.ProgramNode, 5, 1)}, "", api.OK},
		{0, fail, "", api.ErrForm},
		{5, nil, "", api.ErrForm},
		{7, nil, "", api.ErrForm},
		{6, fail[:1], "", api.ErrForm},
		{6, fail[1:], "", api.ErrForm},
		{6, []api.TreeNode{{Kind: api.FailStmt, Size: 3}, num(2, 9)}, "", api.ErrForm},
		{6, slices.Repeat(fail, 13), "", api.ErrForm},
		{6, slices.Repeat(fail, 300), "", api.ErrLimit},
		{6, slices.Repeat(fail, 297), "", api.ErrForm},
		{6, slices.Repeat(fail, 298), "", api.ErrLimit},
		{6, make([]api.TreeNode, api.MaxNodes), "", api.ErrLimit},
		{6, make([]api.TreeNode, api.MaxNodes+1), "", api.ErrLimit},
		{0, make([]api.TreeNode, api.MaxNodes), "", api.ErrForm},
		{0, make([]api.TreeNode, api.MaxNodes+1), "", api.ErrLimit},
		{7, chain(22).nodes()[4:], "use f(int, set);\ntask g() {\n  fail ----------------------1;\n}\n", api.OK},
		{7, chain(25).nodes()[4:], "use f(int, set);\ntask g() {\n  fail -------------------------1;\n}\n", api.OK},
		{7, chain(26).nodes()[4:], "", api.ErrLimit},
		{6, []api.TreeNode{{Kind: api.FailStmt, Size: math.MaxInt}, num(2, 9)}, "", api.ErrForm},
		{6, []api.TreeNode{{Kind: api.FailStmt, Size: math.MinInt}, num(2, 9)}, "", api.ErrForm},
	} {
		y, e := parse.Splice(x, c.node, c.by)
		if e != c.e || e != api.OK && y.Nodes != nil || e == api.OK && printed(t, y) != c.want {
			t.Errorf("Splice of %d, %d nodes: %v, %v", c.node, len(c.by), y, e)
		}
	}
}

// P2.8: places do not matter, all else does.
func TestSameTrees(t *testing.T) {
	x := parsed(t, every)
	same := func(a, b api.Tree, want bool) {
		t.Helper()
		if is, e := parse.Same(a, b); is != want || e != api.OK {
			t.Errorf("Same: %v, %v; not %v", is, e, want)
		}
	}
	same(x, x, true)
	same(x, api.Tree{Nodes: bare(x.Nodes)}, true)
	same(parsed(t, ""), parsed(t, " %x"), true)
	same(parsed(t, "use f(int);"), parsed(t, "use f(int); use g();"), false)
	same(parsed(t, "use f(int); use g();"), parsed(t, "use f(int);"), false)
	same(parsed(t, "use f(int); use g();"), parsed(t, "use f(); use g(int);"), false)
	for i := range x.Nodes {
		same(x, changed(x, i, func(n *api.TreeNode) { n.At++ }), true)
		for _, change := range []func(n *api.TreeNode){
			func(n *api.TreeNode) { n.Text += "x" }, func(n *api.TreeNode) { n.N++ }, func(n *api.TreeNode) { n.N-- }, func(n *api.TreeNode) { n.Kind++ }, func(n *api.TreeNode) { n.Kind-- },
		} {
			if y := changed(x, i, change); parse.Check(y) == api.OK {
				same(x, y, false)
				same(y, x, false)
			}
		}
	}
	wrong, deep := changed(x, 3, func(n *api.TreeNode) { n.Text = "" }), chain(26).tree()
	for _, c := range []struct {
		a, b api.Tree
		e    api.Errno
	}{
		{wrong, x, api.ErrForm}, {x, wrong, api.ErrForm}, {deep, x, api.ErrLimit}, {x, deep, api.ErrLimit}, {wrong, deep, api.ErrForm}, {deep, wrong, api.ErrLimit}, {api.Tree{}, api.Tree{}, api.ErrForm}, {wrong, wrong, api.ErrForm},
	} {
		if is, e := parse.Same(c.a, c.b); is || e != c.e {
			t.Errorf("Same: %v, %v; not %v", is, e, c.e)
		}
	}
}
