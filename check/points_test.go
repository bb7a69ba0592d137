package check_test

import (
	"testing"

	"dripstone/api"
	"dripstone/check"
	"dripstone/elem"
)

// P5.6: the elements of the points of all statements, by the model.
func TestPointsAreTheModel(t *testing.T) {
	count := map[api.Errno]int{}
	for _, m := range modules(150) {
		for i := -1; i <= len(m.Nodes); i++ {
			l, e := check.Points(m.Tree, i)
			count[e]++
			if i < 0 || i == len(m.Nodes) || m.Nodes[i].Kind != api.PutStmt && m.Nodes[i].Kind != api.WhenStmt {
				if e != api.ErrNone || len(l) > 0 {
					t.Fatalf("Points of %d of %s: %v, %v", i, shown(m.Tree, 0), l, e)
				}
				continue
			}
			lattice := m.lattice(m.means[i])
			var want []api.Elem
			wanted := api.OK
			for _, kid := range m.kids[i] {
				if m.Nodes[kid].Kind == api.CaseNode {
					kid = m.kids[kid][0]
				}
				text, constant := m.text(kid)
				x, f := elem.Parse(lattice, text)
				if f != api.OK {
					t.Fatalf("%s is no element", text)
				}
				want = append(want, x)
				if !constant {
					wanted = api.ErrState
				}
			}
			if wanted != api.OK {
				want = nil
			}
			if e != wanted || !same(l, want) {
				t.Fatalf("Points of %s: %v, %v, not %v", shown(m.Tree, i), l, e, want)
			}
			for _, x := range l {
				if elem.Check(lattice, x) != api.OK || x.Kind == api.ElemNone {
					t.Fatalf("Points of %s: %v", shown(m.Tree, i), l)
				}
			}
		}
	}
	if count[api.OK] < 100 || count[api.ErrState] < 50 {
		t.Errorf("not all is met: %v", count)
	}
}

// P5.6: known points.
func TestPoints(t *testing.T) {
	for _, k := range []struct{ shape, point, want string }{
		{"flag", "on", "on"}, {"max", "7", "7"}, {"max", "-7", "-7"}, {"max", "-0", "0"}, {"once", "1000000000", "1000000000"}, {"once", "-1000000000", "-1000000000"}, {"once", "(3)", "3"}, {"once", "-(3)", "-3"},
		{"set", "{3, 1, 2, 1}", "{1, 2, 3}"}, {"set", "{0, -0}", "{0}"}, {"set", "{5, -5}", "{-5, 5}"}, {"tint", "#red", "#red"}, {"tint", "#both", "#both"}, {"map(max)", "[-3] -4", "[-3: -4]"},
		{"pair(set, flag)", "pair({2}, on)", "({2}, on)"}, {"pair(set, flag)", "pair(, on)", "(none, on)"}, {"pair(set, flag)", "pair({2}, )", "({2}, none)"}, {"pair(set, set)", "pair({2}, )", "({2}, none)"}, {"pair(set, set)", "pair(, {2})", "(none, {2})"},
		{"map(map(pair(tint, set)))", "[1] [2] pair(#blue, {4, 3})", "[1: [2: (#blue, {3, 4})]]"},
		{"max", "n", ""}, {"max", "--1", ""}, {"max", "-n", ""}, {"max", "1 + 1", ""}, {"max", "1 == 1", ""}, {"max", "-(1 + 1)", ""}, {"set", "{1, n}", ""}, {"set", "{n - n}", ""}, {"map(flag)", "[n] on", ""}, {"map(max)", "[1] n", ""}, {"pair(set, max)", "pair({1}, n)", ""}, {"pair(max, set)", "pair(n, {1})", ""},
	} {
		x := parsed(t, tint+"task f(x: "+k.shape+", n: int) { put x "+k.point+"; when x "+k.point+" { } }")
		if k.point == "#both" {
			x = parsed(t, tint+"task f(x: "+k.shape+") { put x "+k.point+"; }")
		}
		tables, _ := check.Tables(x)
		shape, _ := check.Shape(x, nodes(x, api.ParamNode)[0]+1)
		for _, node := range append(nodes(x, api.PutStmt), nodes(x, api.WhenStmt)...) {
			l, e := check.Points(x, node)
			if k.want == "" {
				if e != api.ErrState || len(l) > 0 {
					t.Errorf("Points of %s: %v, %v", k.point, l, e)
				}
				continue
			}
			if e != api.OK || len(l) != 1 {
				t.Errorf("Points of %s: %v, %v", k.point, l, e)
				continue
			}
			if text, _ := elem.Text(api.Lattice{Tables: tables, Shape: shape}, l[0]); text != k.want {
				t.Errorf("Points of %s: %s", k.point, text)
			}
		}
	}
	x := parsed(t, "task f(x: pair(once, set)) { when x pair(3, {1}) { put x pair(1, ); } or pair(-4, ) { } or pair(0, {2}) { } or pair(7, ) { } }")
	if l, e := check.Points(x, nodes(x, api.WhenStmt)[0]); e != api.OK || !same(l, "[{7 0 [] [{2 3 [] []} {5 0 [1] []}]} {7 0 [] [{2 -4 [] []} {0 0 [] []}]} {7 0 [] [{2 0 [] []} {5 0 [2] []}]} {7 0 [] [{2 7 [] []} {0 0 [] []}]}]") {
		t.Errorf("Points of a when: %v, %v", l, e)
	}
	for _, kind := range []uint8{api.CaseNode, api.PairPoint, api.TaskItem, api.NumNode, api.BlockNode} {
		if l, e := check.Points(x, nodes(x, kind)[0]); e != api.ErrNone || len(l) > 0 {
			t.Errorf("Points of kind %d: %v, %v", kind, l, e)
		}
	}
}
