package check_test

import (
	"fmt"
	"math"
	"math/rand"
	"slices"
	"strings"
	"testing"

	"dripstone/api"
	"dripstone/check"
)

// answers calls all functions, and returns what they answer.
func answers(x api.Tree, node int) string {
	var b strings.Builder
	say := func(l ...any) { fmt.Fprintf(&b, "%v\n", l) }
	at, e := check.Module(x)
	say(at, e)
	at, e = check.Program(x)
	say(at, e)
	notes, e := check.Look(x)
	say(notes, e)
	tables, e := check.Tables(x)
	say(tables, e)
	shape, e := check.Shape(x, node)
	say(shape, e)
	l, e := check.Sight(x, node)
	say(l, e)
	l, e = check.Sites(x, node)
	say(l, e)
	l, e = check.Captures(x, node)
	say(l, e)
	l, e = check.Passes(x, node)
	say(l, e)
	points, e := check.Points(x, node)
	say(points, e)
	effects, e := check.Effects(x)
	say(effects, e)
	return b.String()
}

// strange returns trees that are modules, that are nearly so, and that are nothing of the sort.
func strange(r *rand.Rand) []api.Tree {
	out := []api.Tree{{}, {Nodes: make([]api.TreeNode, 3)}, {Nodes: make([]api.TreeNode, api.MaxNodes+1)}}
	numbers := []int{math.MinInt, -1, 0, 1, 2, 600, math.MaxInt}
	for seed := range 80 {
		x := written(seed, 10)
		out = append(out, x)
		for range 6 {
			x = changed(x, r.Intn(len(x.Nodes)), func(n *api.TreeNode) {
				switch r.Intn(4) {
				case 0:
					n.Kind = uint8(r.Intn(70))
				case 1:
					n.Size = numbers[r.Intn(len(numbers))]
				case 2:
					n.N = numbers[r.Intn(len(numbers))]
				case 3:
					n.Text = []string{"", "task", "\x00", strings.Repeat("x", 5000), "f", "main"}[r.Intn(6)]
				}
			})
			out = append(out, x)
		}
		var any []api.TreeNode
		for range r.Intn(12) {
			any = append(any, api.TreeNode{Kind: uint8(r.Intn(70)), N: r.Intn(4), Text: []string{"", "x"}[r.Intn(2)], Size: r.Intn(9)})
		}
		out = append(out, api.Tree{Nodes: any})
	}
	return out
}

// P1, P2: no call panics, whatever the arguments; equal ones get equal results.
func TestEveryCallAnswers(t *testing.T) {
	r := rand.New(rand.NewSource(5))
	nodes := []int{math.MinInt, -1, 0, 1, 2, 599, 600, math.MaxInt}
	for _, x := range strange(r) {
		for _, node := range append(nodes, r.Intn(20), r.Intn(100)) {
			if answers(x, node) != answers(x, node) {
				t.Errorf("not the same twice: %v, %d", x, node)
			}
		}
	}
}

// P1: trees whose kinds stand anywhere, but that have their form.
func TestTreesOfAllKinds(t *testing.T) {
	for seed := range 12 {
		x := written(seed, 4)
		for node := range x.Nodes {
			answers(x, node)
		}
	}
}

// full returns a module in which all results are there.
const full = tint + "use g(pair(tint, map(set)), int); task main(n: int, p: pair(tint, map(set))) { new x: set; let m = n; all { spawn h(x); each x as k { put p pair(, [1] {2, 3}); let i = m + k; } } freeze x as y; when p pair(#red, [1] {2}) { } or pair(#blue, ) { spawn g(p, size(y)); } } task h(q: set) { put q {1, 2}; when q {3} { } }"

// P2, R4: the tree stays as it is, and so does its spare room; results are other memory, and share none with each other.
func TestListsStay(t *testing.T) {
	spare := api.TreeNode{Kind: 77, N: 77, Text: "spare", At: 77, Size: 77}
	whole := append(slices.Clone(parsed(t, full).Nodes), spare, spare, spare)
	keep := slices.Clone(whole)
	x := api.Tree{Nodes: whole[:len(whole)-3]}
	before := make([]string, len(x.Nodes))
	for i := range x.Nodes {
		before[i] = answers(x, i)
		spoil(t, x, i)
	}
	for i := range x.Nodes {
		if answers(x, i) != before[i] {
			t.Errorf("what is answered of %d has changed", i)
		}
	}
	if !slices.Equal(whole, keep) {
		t.Errorf("an argument has changed")
	}
}

// spoil overwrites all lists of all results, one after the other, and fails if that changes another list of the same result.
func spoil(t *testing.T, x api.Tree, node int) {
	notes, _ := check.Look(x)
	tables, _ := check.Tables(x)
	shape, _ := check.Shape(x, node)
	points, _ := check.Points(x, node)
	effects, _ := check.Effects(x)
	var s spoiler
	s.ints(&notes.Means, &notes.Sites, &notes.Pools)
	for i := range notes.Types {
		s.shape(&notes.Types[i].Shape)
	}
	for i := range tables {
		for j := range tables[i].Above {
			s.ints(&tables[i].Above[j])
		}
		s.bools(&tables[i].Wrong)
	}
	s.shape(&shape)
	for i := range points {
		s.elem(&points[i])
	}
	for i := range effects {
		s.bools(&effects[i].Puts, &effects[i].Waits)
	}
	if s.shared {
		t.Errorf("results of %d share memory", node)
	}
	for _, f := range []func(api.Tree, int) ([]int, api.Errno){check.Sight, check.Sites, check.Captures, check.Passes} {
		l, _ := f(x, node)
		s.ints(&l)
	}
}

// spoiler overwrites lists with their spare room; it is shared if a list was overwritten before.
type spoiler struct{ shared bool }

func overwrite[T comparable](s *spoiler, l *[]T, by T) {
	all := (*l)[:cap(*l)]
	for i := range all {
		if all[i] == by {
			s.shared = true
		}
		all[i] = by
	}
}

func (s *spoiler) ints(l ...*[]int) {
	for _, x := range l {
		overwrite(s, x, -7777)
	}
}

func (s *spoiler) bools(l ...*[]bool) {
	for i, a := range l {
		for _, b := range l[:i] {
			if cap(*a) > 0 && cap(*b) > 0 && &(*a)[:1][0] == &(*b)[:1][0] {
				s.shared = true
			}
		}
	}
}

func (s *spoiler) shape(x *api.Shape) {
	for i := range x.Kids {
		s.shape(&x.Kids[i])
	}
	for i := range x.Kids[:cap(x.Kids)] {
		k := &x.Kids[:cap(x.Kids)][i]
		if k.Kind == 99 {
			s.shared = true
		}
		k.Kind = 99
	}
}

func (s *spoiler) elem(x *api.Elem) {
	s.ints(&x.Keys)
	for i := range x.Kids {
		s.elem(&x.Kids[i])
	}
	for i := range x.Kids[:cap(x.Kids)] {
		k := &x.Kids[:cap(x.Kids)][i]
		if k.Kind == 99 {
			s.shared = true
		}
		k.Kind = 99
	}
}

// R3: nil and empty lists are the same.
func TestNilAndEmpty(t *testing.T) {
	for _, l := range [][]api.TreeNode{nil, {}} {
		if node, e := check.Module(api.Tree{Nodes: l}); node != 0 || e != api.ErrForm {
			t.Errorf("Module of nothing: %d, %v", node, e)
		}
	}
	x := parsed(t, "")
	if node, e := check.Module(x); node != 0 || e != api.OK {
		t.Errorf("Module without items: %d, %v", node, e)
	}
	if notes, e := check.Look(x); e != api.OK || !same(notes, api.Notes{Means: []int{-1}, Types: make([]api.Type, 1), Sites: []int{-1}, Pools: []int{0}}) {
		t.Errorf("Look without items: %v, %v", notes, e)
	}
}
