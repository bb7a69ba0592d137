package check_test

import (
	"slices"
	"testing"

	"dripstone/api"
	"dripstone/check"
	"dripstone/parse"
)

// mustBe fails if a tree is no module.
func mustBe(t *testing.T, x api.Tree, was api.Tree, why string) {
	t.Helper()
	if node, e := check.Module(x); e != api.OK {
		t.Fatalf("%s: %v at %d (%s) of %s, which was %s", why, e, node, shown(x, node), shown(x, 0), shown(was, 0))
	}
}

// renamed returns a tree with a name in the place of another one.
func renamed(x api.Tree, from, to string) api.Tree {
	l := slices.Clone(x.Nodes)
	for i := range l {
		if l[i].Text == from {
			l[i].Text = to
		}
	}
	return api.Tree{Nodes: l}
}

// renamedShape changes the name of a lattice in a shape.
func renamedShape(s api.Shape, from, to string) api.Shape {
	if s.Name == from {
		s.Name = to
	}
	s.Kids = slices.Clone(s.Kids)
	for i := range s.Kids {
		s.Kids[i] = renamedShape(s.Kids[i], from, to)
	}
	return s
}

// P5.8: names are nothing.
func TestNamesAreNothing(t *testing.T) {
	for _, m := range modules(150) {
		notes, _ := check.Look(m.Tree)
		names := map[string]bool{}
		for _, n := range m.Nodes {
			if n.Text == "" || names[n.Text] {
				continue
			}
			names[n.Text] = true
			y := renamed(m.Tree, n.Text, "other")
			mustBe(t, y, m.Tree, "a name in the place of "+n.Text)
			other, _ := check.Look(y)
			for i := range notes.Types {
				other.Types[i].Shape = renamedShape(other.Types[i].Shape, "other", n.Text)
			}
			if !same(notes, other) {
				t.Fatalf("with other in the place of %s there are other notes of %s: %v, %v", n.Text, shown(m.Tree, 0), notes, other)
			}
		}
	}
}

// P5.9: less is a module.
func TestLess(t *testing.T) {
	count := map[uint8]int{}
	for _, m := range modules(300) {
		for i, n := range m.Nodes {
			isFree := isStmt(n.Kind) && !isDeclaration(n.Kind) && n.Kind != api.FreezeStmt
			switch n.Kind {
			case api.CaseNode:
				isFree = len(m.kids[m.up[i]]) > 1
			case api.LatticeItem, api.UseItem, api.TaskItem:
				isFree = true
				for j, other := range m.means {
					if other == i && m.item[j] != i {
						isFree = false
					}
				}
			}
			if !isFree {
				continue
			}
			y, ok := without(m.Tree, i)
			if !ok {
				t.Fatalf("no tree without %s", shown(m.Tree, i))
			}
			count[n.Kind]++
			mustBe(t, y, m.Tree, "without "+shown(m.Tree, i))
		}
	}
	for _, kind := range []uint8{api.PutStmt, api.SpawnStmt, api.WhenStmt, api.EachStmt, api.AllStmt, api.IfStmt, api.FailStmt, api.CaseNode, api.LatticeItem, api.UseItem, api.TaskItem} {
		if count[kind] < 10 {
			t.Errorf("nearly nothing of kind %d is left out: %v", kind, count)
		}
	}
}

// used returns a tree with a UseItem in the place of a TaskItem.
func used(x api.Tree, item int) api.Tree {
	l := []api.TreeNode{{Kind: api.UseItem, Text: x.Nodes[item].Text}}
	kids, _ := parse.Kids(x, item)
	for _, kid := range kids[:len(kids)-1] {
		sub, _ := parse.Sub(x, kid+1)
		l = append(l, sub...)
	}
	l[0].Size = len(l)
	y, _ := parse.Splice(x, item, l)
	return y
}

// P5.10, P5.11: a use in the place of a task; it never does less.
func TestSeparate(t *testing.T) {
	many := 0
	for _, m := range modules(300) {
		was, _ := check.Effects(m.Tree)
		for _, item := range m.kids[0] {
			if m.Nodes[item].Kind != api.TaskItem {
				continue
			}
			many++
			y := used(m.Tree, item)
			mustBe(t, y, m.Tree, "with a use of "+m.Nodes[item].Text)
			is, _ := check.Effects(y)
			if !slices.EqualFunc(was, is, less) {
				t.Fatalf("with a use of %s: %v, not %v", m.Nodes[item].Text, is, was)
			}
		}
	}
	if many < 300 {
		t.Errorf("only %d tasks", many)
	}
}

// P5.11: a task does what those that it spawns do to its parameters, and not more but what it does itself.
func TestEffectsOfSpawned(t *testing.T) {
	spawns := 0
	for _, m := range modules(300) {
		l, _ := check.Effects(m.Tree)
		number := map[int]int{} // of an item among those that do something
		for _, item := range m.kids[0] {
			if m.Nodes[item].Kind != api.LatticeItem {
				number[item] = len(number)
			}
		}
		for item, i := range number {
			if m.Nodes[item].Kind != api.TaskItem {
				continue
			}
			own := m.itself(item)
			for node := item; node < item+m.Nodes[item].Size; node++ {
				if m.Nodes[node].Kind == api.SpawnStmt {
					spawns++
					by := m.handed(item, node, l[number[m.means[node]]])
					if !less(by, l[i]) {
						t.Fatalf("Effects of %s: %v is less than %v", shown(m.Tree, 0), l[i], by)
					}
					own = both(own, by)
				}
			}
			if !less(l[i], own) {
				t.Fatalf("Effects of %s: %v is more than %v", shown(m.Tree, 0), l[i], own)
			}
		}
	}
	if spawns < 300 {
		t.Errorf("only %d spawns", spawns)
	}
}

// itself returns what a task does itself.
func (m *model) itself(item int) api.Effect {
	n := len(m.params(item))
	x := api.Effect{Puts: make([]bool, n), Waits: make([]bool, n)}
	for node := item; node < item+m.Nodes[item].Size; node++ {
		param := slices.Index(m.kids[item], m.means[node])
		switch m.Nodes[node].Kind {
		case api.PutStmt:
			if param >= 0 {
				x.Puts[param] = true
			}
		case api.WhenStmt:
			if param >= 0 {
				x.Waits[param] = true
			}
		case api.FailStmt, api.AddNode, api.SubNode, api.MulNode, api.DivNode:
			x.Fails = true
		case api.SpawnStmt, api.EachStmt:
			x.Spawns = true
		}
	}
	return x
}

// handed returns what a task that is spawned by a statement does to the parameters of the task that spawns it.
func (m *model) handed(item, spawn int, does api.Effect) api.Effect {
	n := len(m.params(item))
	x := api.Effect{Puts: make([]bool, n), Waits: make([]bool, n), Fails: does.Fails, Spawns: true}
	for i, kid := range m.kids[spawn] {
		if param := slices.Index(m.kids[item], m.means[kid]); param >= 0 && m.Nodes[kid].Kind == api.NameNode {
			x.Puts[param] = x.Puts[param] || does.Puts[i]
			x.Waits[param] = x.Waits[param] || does.Waits[i]
		}
	}
	return x
}

func both(a, b api.Effect) api.Effect {
	a.Fails, a.Spawns = a.Fails || b.Fails, a.Spawns || b.Spawns
	for i := range a.Puts {
		a.Puts[i], a.Waits[i] = a.Puts[i] || b.Puts[i], a.Waits[i] || b.Waits[i]
	}
	return a
}

// P5.12: the items the other way round.
func TestOrderOfItems(t *testing.T) {
	for _, m := range modules(300) {
		l := []api.TreeNode{m.Nodes[0]}
		for _, item := range slices.Backward(m.kids[0]) {
			sub, _ := parse.Sub(m.Tree, item)
			l = append(l, sub...)
		}
		y := api.Tree{Nodes: l}
		mustBe(t, y, m.Tree, "the other way round")
		was, _ := check.Effects(m.Tree)
		is, _ := check.Effects(y)
		slices.Reverse(is)
		if !same(was, is) {
			t.Fatalf("the other way round: %v, not %v", is, was)
		}
	}
}
