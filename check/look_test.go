package check_test

import (
	"fmt"
	"slices"
	"testing"

	"dripstone/api"
	"dripstone/check"
	"dripstone/order"
	"dripstone/parse"
)

// modules returns modules that are left of written programs, with their models.
func modules(many int) []*model {
	var out []*model
	for seed := range many {
		out = append(out, modelOf(mended(written(seed, seed%3*15))))
	}
	return out
}

// same tells whether two values are printed the same.
func same(a, b any) bool { return fmt.Sprint(a) == fmt.Sprint(b) }

// P5.2: Look is the model.
func TestLook(t *testing.T) {
	count := map[string]int{}
	for _, m := range modules(300) {
		n, e := check.Look(m.Tree)
		if want := m.notes(); e != api.OK || !same(n, want) {
			t.Fatalf("Look of %s: %v, %v, not %v", shown(m.Tree, 0), n, e, want)
		}
		for i := range m.Nodes {
			count[fmt.Sprintf("type %d", n.Types[i].Kind)]++
			count[fmt.Sprintf("pools %d", min(n.Pools[i], 2))]++
			if n.Means[i] >= 0 {
				count[fmt.Sprintf("means of %d", m.Nodes[i].Kind)]++
			}
		}
	}
	for _, kind := range []uint8{api.PutStmt, api.WhenStmt, api.EachStmt, api.FreezeStmt, api.NameNode, api.SizeNode, api.HasNode, api.ValueNode, api.SpawnStmt, api.NamedType, api.AboveNode, api.NamePoint} {
		if count[fmt.Sprintf("means of %d", kind)] < 10 {
			t.Errorf("nearly no node of kind %d: %v", kind, count)
		}
	}
	if count["type 4"] < 10 || count["pools 2"] < 10 {
		t.Errorf("not all is met: %v", count)
	}
}

// P5.2: a known module, node by node.
func TestLookOfAll(t *testing.T) {
	x := parsed(t, "lattice a { b: c; c } use g(a, int); task f(p: a, n: int) { share s: map(a); let m = n; all { new x: set; all { each x as k { all { put s [k] #c; } } } freeze x as y; if has(y, m) { spawn g(p, -m); } } when p #c { fail 1; } }")
	want := []struct {
		kind              uint8
		means, site, pool int
		t                 uint8
		shape             string
	}{
		{api.ProgramNode, -1, -1, 0, 0, ""}, {api.LatticeItem, -1, -1, 0, 0, ""}, {api.ElemNode, -1, -1, 0, 0, ""}, {api.AboveNode, 4, -1, 0, 0, ""}, {api.ElemNode, -1, -1, 0, 0, ""},
		{api.UseItem, -1, -1, 0, 0, ""}, {api.NamedType, 1, -1, 0, 0, ""}, {api.IntType, -1, -1, 0, 0, ""},
		{api.TaskItem, -1, -1, 0, 0, ""}, {api.ParamNode, -1, -1, 0, api.TypeShared, "a"}, {api.NamedType, 1, -1, 0, 0, ""}, {api.ParamNode, -1, -1, 0, api.TypeInt, ""}, {api.IntType, -1, -1, 0, 0, ""}, {api.BlockNode, -1, -1, 0, 0, ""},
		{api.ShareStmt, -1, 0, 0, api.TypeShared, "map(a)"}, {api.MapType, -1, -1, 0, 0, ""}, {api.NamedType, 1, -1, 0, 0, ""}, {api.LetStmt, -1, -1, 0, api.TypeInt, ""}, {api.NameNode, 11, -1, 0, 0, ""},
		{api.AllStmt, -1, 1, 0, 0, ""}, {api.BlockNode, -1, -1, 0, 0, ""}, {api.NewStmt, -1, 2, 1, api.TypeOwn, "set"}, {api.SetType, -1, -1, 1, 0, ""}, {api.AllStmt, -1, 3, 1, 0, ""}, {api.BlockNode, -1, -1, 1, 0, ""},
		{api.EachStmt, 21, 4, 2, 0, ""}, {api.BindNode, -1, -1, 2, api.TypeInt, ""}, {api.BlockNode, -1, -1, 2, 0, ""}, {api.AllStmt, -1, 5, 0, 0, ""}, {api.BlockNode, -1, -1, 0, 0, ""},
		{api.PutStmt, 14, -1, 1, 0, ""}, {api.KeyPoint, -1, -1, 1, 0, ""}, {api.NameNode, 26, -1, 1, 0, ""}, {api.NamePoint, 4, -1, 1, 0, ""},
		{api.FreezeStmt, 21, 6, 1, 0, ""}, {api.BindNode, -1, -1, 1, api.TypeFrozen, "set"}, {api.IfStmt, -1, -1, 1, 0, ""}, {api.HasNode, 35, -1, 1, 0, ""}, {api.NameNode, 17, -1, 1, 0, ""}, {api.BlockNode, -1, -1, 1, 0, ""},
		{api.SpawnStmt, 5, 7, 1, 0, ""}, {api.NameNode, 9, -1, 1, 0, ""}, {api.NegNode, -1, -1, 1, 0, ""}, {api.NameNode, 17, -1, 1, 0, ""},
		{api.WhenStmt, 9, 8, 0, 0, ""}, {api.CaseNode, -1, -1, 0, 0, ""}, {api.NamePoint, 4, -1, 0, 0, ""}, {api.BlockNode, -1, -1, 0, 0, ""}, {api.FailStmt, -1, -1, 0, 0, ""}, {api.NumNode, -1, -1, 0, 0, ""},
	}
	n, e := check.Look(x)
	if e != api.OK || len(want) != len(x.Nodes) || len(n.Means) != len(want) || len(n.Types) != len(want) || len(n.Sites) != len(want) || len(n.Pools) != len(want) {
		t.Fatalf("Look: %v, %v of %d nodes", n, e, len(x.Nodes))
	}
	for i, w := range want {
		shape := ""
		if n.Types[i].Shape.Kind != 0 {
			shape, _ = order.ShapeText(n.Types[i].Shape)
		}
		if x.Nodes[i].Kind != w.kind || n.Means[i] != w.means || n.Sites[i] != w.site || n.Pools[i] != w.pool || n.Types[i].Kind != w.t || shape != w.shape {
			t.Errorf("%d, of kind %d: %d, %d, %d, %v", i, x.Nodes[i].Kind, n.Means[i], n.Sites[i], n.Pools[i], n.Types[i])
		}
	}
}

// P5.3: tables, with what is above each element ascending, and once.
func TestTables(t *testing.T) {
	for _, k := range []struct{ text, want string }{
		{"", "[]"}, {"task f() { }", "[]"},
		{"lattice a { b }", "[{a [b] [[]] [false]}]"},
		{"lattice a { b: e, d, c, d; c: e; d: e, e; e! } task f() { } lattice f { g: h; h }", "[{a [b c d e] [[1 2 3] [3] [3] []] [false false false true]} {f [g h] [[1] []] [false false]}]"},
	} {
		if l, e := check.Tables(parsed(t, k.text)); e != api.OK || !same(l, k.want) {
			t.Errorf("Tables of %q: %v, %v", k.text, l, e)
		}
	}
	for _, m := range modules(100) {
		if l, e := check.Tables(m.Tree); e != api.OK || !same(l, m.tables()) {
			t.Errorf("Tables of %s: %v, %v", shown(m.Tree, 0), l, e)
		}
	}
}

// P5.3: the shape of each node that is one; no other node has one.
func TestShape(t *testing.T) {
	found := 0
	for _, m := range modules(60) {
		for i := -1; i <= len(m.Nodes); i++ {
			s, e := check.Shape(m.Tree, i)
			if i < 0 || i == len(m.Nodes) || !isShape(m.Nodes[i].Kind) {
				if e != api.ErrNone || !same(s, api.Shape{}) {
					t.Fatalf("Shape of %d of %s: %v, %v", i, shown(m.Tree, 0), s, e)
				}
				continue
			}
			found++
			text, _ := order.ShapeText(s)
			if e != api.OK || text != shown(m.Tree, i) {
				t.Fatalf("Shape of %s: %v, %v", shown(m.Tree, i), s, e)
			}
		}
	}
	if found < 200 {
		t.Errorf("only %d shapes", found)
	}
	x := parsed(t, "use f(int, pair(flag, map(pair(max, set))));")
	if s, e := check.Shape(x, 3); e != api.OK || !same(s, "{7  [{1  []} {6  [{7  [{2  []} {3  []}]}]}]}") {
		t.Errorf("Shape: %v, %v", s, e)
	}
	if s, e := check.Shape(x, 2); e != api.ErrNone || s.Kind != 0 {
		t.Errorf("Shape of an int: %v, %v", s, e)
	}
}

// P5.4: what is in sight at statements and exprs, by the model.
func TestSightIsTheModel(t *testing.T) {
	for _, m := range modules(100) {
		for i := -1; i <= len(m.Nodes); i++ {
			l, e := check.Sight(m.Tree, i)
			if i < 0 || i == len(m.Nodes) || !isStmt(m.Nodes[i].Kind) && !isExpr(m.Nodes[i].Kind) {
				if e != api.ErrNone || len(l) > 0 {
					t.Fatalf("Sight at %d of %s: %v, %v", i, shown(m.Tree, 0), l, e)
				}
				continue
			}
			var want []int
			for _, decl := range m.sight[i] {
				want = append(want, decl)
			}
			slices.Sort(want)
			if e != api.OK || !slices.Equal(l, want) {
				t.Fatalf("Sight at %d of %s: %v, %v, not %v", i, shown(m.Tree, 0), l, e, want)
			}
		}
	}
}

// sightAt returns the names that are in sight at a node.
func sightAt(t *testing.T, x api.Tree, node int) string {
	t.Helper()
	l, e := check.Sight(x, node)
	if e != api.OK {
		t.Errorf("Sight at %d: %v", node, e)
	}
	s := ""
	for _, decl := range l {
		s += x.Nodes[decl].Text
	}
	return s
}

// P5.4: known places.
func TestSight(t *testing.T) {
	for _, k := range []struct {
		text string
		kind uint8
		want string
	}{
		{"task f(a: int, b: set) { ^fail 1; }", api.FailStmt, "ab"}, {"task f(a: int) { ^new b: set; }", api.NewStmt, "a"}, {"task f(a: int) { ^let b = 1; }", api.LetStmt, "a"}, {"task f(a: int) { let b = ^1; }", api.NumNode, "a"},
		{"task f(a: int) { let b = 1; let c = 2 + ^3; let d = 4; }", api.NumNode, "ab"}, {"task f() { new a: set; all { ^each a as b { let c = 1; } } }", api.EachStmt, "a"}, {"task f() { new a: set; all { each a as b { let c = 1; ^put a {c}; let d = 1; } } }", api.PutStmt, "abc"},
		{"task f() { new a: set; all { each a as b { put a {^1}; } } }", api.NumNode, "ab"}, {"task f() { new a: set; ^freeze a as b; fail 1; }", api.FreezeStmt, "a"}, {"task f() { new a: set; freeze a as b; ^fail 1; }", api.FailStmt, "ab"},
		{"task f() { ^all { let a = 1; } let b = 1; }", api.AllStmt, ""}, {"task f() { all { let a = 1; } ^let b = 1; }", api.LetStmt, ""}, {"task f(a: int) { if a { let b = 1; } else { let c = 1; ^fail 1; } }", api.FailStmt, "ac"},
		{"task f(a: int) { ^if a { let b = 1; } else { let c = 1; } }", api.IfStmt, "a"}, {"task f(a: set) { when a {1} { share b: set; put b {^1}; } }", api.NumNode, "ab"}, {"task f(a: set) { when a {^1} { share b: set; } }", api.NumNode, "a"},
		{"task g(z: int) { let y = 1; } task f(a: set) { spawn g(^1); }", api.NumNode, "a"}, {"task f(a: int) { fail ^a; }", api.NameNode, "a"}, {"task f(a: int) { fail 1 ^< a; let b = 1; }", api.LtNode, "a"},
	} {
		x, node := marked(t, k.text, k.kind)
		if s := sightAt(t, x, node); s != k.want {
			t.Errorf("Sight in %q: %s, not %s", k.text, s, k.want)
		}
	}
}

// P5.4: the sites of tasks, by the numbers of the items.
func TestSites(t *testing.T) {
	x := parsed(t, "lattice l { a } task f(n: int) { let a = 1; share b: set; put b {1}; if a { all { fail 1; } } else { when b {1} { } } new c: set; all { each c as k { spawn g(); } } freeze c as d; } use g(); task h() { } ")
	for _, k := range []struct {
		item int
		want []uint8
		e    api.Errno
	}{
		{-1, nil, api.ErrNone}, {0, nil, api.ErrNone}, {2, nil, api.ErrNone}, {3, nil, api.OK}, {4, nil, api.ErrNone},
		{1, []uint8{api.ShareStmt, api.AllStmt, api.WhenStmt, api.NewStmt, api.AllStmt, api.EachStmt, api.SpawnStmt, api.FreezeStmt}, api.OK},
	} {
		l, e := check.Sites(x, k.item)
		var kinds []uint8
		for _, node := range l {
			kinds = append(kinds, x.Nodes[node].Kind)
		}
		if e != k.e || !slices.Equal(kinds, k.want) || !slices.IsSorted(l) {
			t.Errorf("Sites of %d: %v (%v), %v", k.item, l, kinds, e)
		}
	}
	for _, m := range modules(150) {
		n := m.notes()
		for i, item := range m.kids[0] {
			l, e := check.Sites(m.Tree, i)
			if m.Nodes[item].Kind != api.TaskItem {
				if e != api.ErrNone || len(l) > 0 {
					t.Fatalf("Sites of %d of %s: %v, %v", i, shown(m.Tree, 0), l, e)
				}
				continue
			}
			var want []int
			for node := item; node < item+m.Nodes[item].Size; node++ {
				if n.Sites[node] >= 0 {
					want = append(want, node)
				}
			}
			if e != api.OK || !slices.Equal(l, want) {
				t.Fatalf("Sites of %d of %s: %v, %v, not %v", i, shown(m.Tree, 0), l, e, want)
			}
		}
	}
}

// P5.5: what is captured and passed on, by the model.
func TestCapturesAndPassesAreTheModel(t *testing.T) {
	captured, passed := 0, 0
	for _, m := range modules(200) {
		for i := -1; i <= len(m.Nodes); i++ {
			kind := uint8(0)
			if i >= 0 && i < len(m.Nodes) {
				kind = m.Nodes[i].Kind
			}
			l, e := check.Captures(m.Tree, i)
			p, f := check.Passes(m.Tree, i)
			var want, wanted []int
			e1, e2 := api.ErrNone, api.ErrNone
			if kind == api.EachStmt {
				want, e1 = m.captures(i), api.OK
			}
			if kind == api.EachStmt || kind == api.FreezeStmt {
				wanted, e2 = m.passes(i), api.OK
			}
			if e != e1 || f != e2 || !slices.Equal(l, want) || !slices.Equal(p, wanted) {
				t.Fatalf("Captures and Passes of %d of %s: %v, %v and %v, %v, not %v, %v", i, shown(m.Tree, 0), l, e, p, f, want, wanted)
			}
			captured, passed = captured+len(l), passed+len(p)
		}
	}
	if captured < 100 || passed < 50 {
		t.Errorf("only %d and %d", captured, passed)
	}
}

// P5.5: known ones.
func TestCapturesAndPasses(t *testing.T) {
	x := parsed(t, "use g(set, int); task f(p: set, n: int) { share s: set; let m = n; new x: set; new y: set; all { all { spawn g(x, 1); } spawn g(y, n); spawn g(s, n); each x as k { let i = k + m; put p {i}; new w: set; all { spawn g(y, 1); spawn g(w, k); } } each y as j { } } freeze y as z; all { new v: set; each v as u { fail size(z) + has(z, n); } } }")
	name := func(l []int, e api.Errno) string {
		s := fmt.Sprint(e)
		for _, node := range l {
			s += " " + x.Nodes[node].Text
			if x.Nodes[node].Kind == api.SpawnStmt {
				s += shown(x, node+1)
			}
		}
		return s
	}
	each := nodes(x, api.EachStmt)
	freeze := nodes(x, api.FreezeStmt)[0]
	for _, k := range []struct{ got, want string }{
		{name(check.Captures(x, each[0])), "0 p m y"}, {name(check.Captures(x, each[1])), "0"}, {name(check.Captures(x, each[2])), "0 n z"}, {name(check.Captures(x, freeze)), "7"},
		{name(check.Passes(x, each[0])), "0 gx"}, {name(check.Passes(x, each[1])), "0 gy x"}, {name(check.Passes(x, each[2])), "0"}, {name(check.Passes(x, freeze)), "0 gy x y"},
	} {
		if k.got != k.want {
			t.Errorf("%q, not %q", k.got, k.want)
		}
	}
	for _, kind := range []uint8{api.SpawnStmt, api.AllStmt, api.BindNode, api.BlockNode, api.TaskItem} {
		node := nodes(x, kind)[0]
		if _, e := check.Captures(x, node); e != api.ErrNone {
			t.Errorf("Captures of kind %d: %v", kind, e)
		}
		if _, e := check.Passes(x, node); e != api.ErrNone {
			t.Errorf("Passes of kind %d: %v", kind, e)
		}
	}
}

// P5.3 to P5.6: with a tree that is none, or no module, the error is that one, with any node.
func TestErrorsOfTrees(t *testing.T) {
	flawed := parsed(t, "task f(x: once) { when x 1 { } or 1 { } }")
	typed := parsed(t, "task f(x: once) { put x on; }")
	for _, k := range []struct {
		x api.Tree
		e api.Errno
	}{
		{api.Tree{}, api.ErrForm}, {api.Tree{Nodes: make([]api.TreeNode, api.MaxNodes+1)}, api.ErrLimit}, {api.Tree{Nodes: make([]api.TreeNode, api.MaxNodes)}, api.ErrForm}, {flawed, api.ErrFalse}, {typed, api.ErrType},
		{changed(typed, 1, func(n *api.TreeNode) { n.Text = "on" }), api.ErrForm}, {parsed(t, "task f() { fail x; }"), api.ErrName},
	} {
		for _, node := range []int{-1, 0, 3, 1000} {
			notes, e1 := check.Look(k.x)
			tables, e2 := check.Tables(k.x)
			shape, e3 := check.Shape(k.x, node)
			sight, e4 := check.Sight(k.x, node)
			sites, e5 := check.Sites(k.x, node)
			captures, e6 := check.Captures(k.x, node)
			passes, e7 := check.Passes(k.x, node)
			points, e8 := check.Points(k.x, node)
			effects, e9 := check.Effects(k.x)
			for i, e := range []api.Errno{e1, e2, e3, e4, e5, e6, e7, e8, e9} {
				if e != k.e {
					t.Errorf("call %d of %s: %v, not %v", i, shown(k.x, 0), e, k.e)
				}
			}
			if !same(notes, api.Notes{}) || !same(shape, api.Shape{}) || len(tables)+len(sight)+len(sites)+len(captures)+len(passes)+len(points)+len(effects) > 0 {
				t.Errorf("results with an error")
			}
		}
		if parse.Check(k.x) != api.OK {
			node, e := check.Module(k.x)
			at, f := check.Program(k.x)
			if node != 0 || at != 0 || e != k.e || f != k.e {
				t.Errorf("Module and Program of no tree: %d, %v, %d, %v", node, e, at, f)
			}
		}
	}
}
