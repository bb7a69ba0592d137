package tell_test

import (
	"fmt"
	"math"
	"math/rand"
	"slices"
	"strings"
	"testing"

	"dripstone/api"
	"dripstone/tell"
)

// answers calls all functions with a tree, and returns what they answer.
func answers(x api.Tree, in, picks []int, steps int) string {
	var b strings.Builder
	say := func(l ...any) { fmt.Fprintf(&b, "%v\n", l) }
	o, e := tell.Run(x, in)
	say(o, e)
	o, e = tell.Order(x, in, picks)
	say(o, e)
	h, e := tell.Log(x, in)
	say(h, e)
	o, e = tell.After(x, in, steps)
	say(o, e)
	s, e := tell.Tell(x, in)
	say(s, e)
	l, e := tell.Times(x, in)
	say(l, e)
	p, e := tell.Paths(x, in)
	say(p, e)
	return b.String()
}

// strange returns trees that are programs, that are nearly so, and that are nothing of the sort.
func strange(r *rand.Rand) []api.Tree {
	out := []api.Tree{{}, {Nodes: make([]api.TreeNode, 3)}, {Nodes: make([]api.TreeNode, api.MaxNodes+1)}}
	numbers := []int{math.MinInt, -1, 0, 1, 2, 600, math.MaxInt}
	for seed := range 40 {
		x := written(seed, seed%2 == 0)
		out = append(out, x)
		for range 6 {
			l := slices.Clone(x.Nodes)
			n := &l[r.Intn(len(l))]
			switch r.Intn(5) {
			case 0:
				n.Kind = uint8(r.Intn(70))
			case 1:
				n.Size = numbers[r.Intn(len(numbers))]
			case 2:
				n.N = numbers[r.Intn(len(numbers))]
			case 3:
				n.Text = []string{"", "task", "\x00", strings.Repeat("x", 5000), "f", "main", "n"}[r.Intn(7)]
			case 4: // another kind of the same form
				kinds := []uint8{api.AddNode, api.SubNode, api.MulNode, api.DivNode, api.EqNode}
				if slices.Contains(kinds, n.Kind) {
					n.Kind = kinds[r.Intn(5)]
				}
			}
			out = append(out, api.Tree{Nodes: l})
		}
		var any []api.TreeNode
		for range r.Intn(12) {
			any = append(any, api.TreeNode{Kind: uint8(r.Intn(70)), N: r.Intn(4), Text: []string{"", "x"}[r.Intn(2)], Size: r.Intn(9)})
		}
		out = append(out, api.Tree{Nodes: any})
	}
	return out
}

// P1, P2: no call panics, whatever the arguments; equal ones get equal results.
func TestEveryCallAnswers(t *testing.T) {
	r := rand.New(rand.NewSource(5))
	numbers := []int{math.MinInt, -api.MaxNumber, -1, 0, 1, 2, 3, 599, api.MaxNumber, math.MaxInt}
	for _, x := range strange(r) {
		for range 2 {
			in := make([]int, []int{1, 1, 1, 1, 0, 2, 7}[r.Intn(7)])
			for i := range in {
				in[i] = numbers[r.Intn(len(numbers))]
			}
			picks := make([]int, r.Intn(20))
			for i := range picks {
				picks[i] = numbers[2+r.Intn(8)]
			}
			steps := numbers[r.Intn(len(numbers))]
			if answers(x, in, picks, steps) != answers(x, in, picks, steps) {
				t.Errorf("not the same twice: %v, %v, %v, %d", x, in, picks, steps)
			}
		}
	}
}

// full is a program in whose results all lists are there.
const full = tint + "task main(n: int) { new x: set; share p: pair(map(set), tint); all { spawn h(x, p); each x as k { put p pair([1] {2, k}, ); share u: pair(map(flag), max); if k { fail k; } let i = 1 / 0; } } freeze x as y; put p pair([n] {size(y)}, #red); new z: map(pair(max, flag)); put z [3] pair(4, on); freeze z as zz; when p pair([1] {2}, #red) { share w: set; spawn h(w, p); } all { spawn v(p); } } task h(q: set, p: pair(map(set), tint)) { put q {1, 2, 0}; } task v(p: pair(map(set), tint)) { when p pair([99] {1}, ) { } }"

// P2, R4: arguments stay as they are, and so does their spare room; results are other memory, and share none in themselves.
func TestListsStay(t *testing.T) {
	spare := api.TreeNode{Kind: 77, N: 77, Text: "spare", At: 77, Size: 77}
	nodes := append(slices.Clone(program(t, full).Nodes), spare, spare, spare)
	keep := slices.Clone(nodes)
	x := api.Tree{Nodes: nodes[:len(nodes)-3]}
	in, picks := []int{5, 77, 77}, []int{3, 1, 4, 1, 5, 77, 77}
	before := answers(x, in[:1], picks[:5], 12)
	if !strings.Contains(before, "wait main ") || !strings.Contains(before, "fail -1") {
		t.Fatalf("not all is there: %s", before)
	}
	for range 2 {
		spoil(t, x, in[:1], picks[:5])
		if answers(x, in[:1], picks[:5], 12) != before {
			t.Errorf("what is answered has changed")
		}
	}
	if !slices.Equal(nodes, keep) || !slices.Equal(in, []int{5, 77, 77}) || !slices.Equal(picks, []int{3, 1, 4, 1, 5, 77, 77}) {
		t.Errorf("an argument has changed")
	}
}

// spoil overwrites all lists of all results, and fails if that changes another list of the same result.
func spoil(t *testing.T, x api.Tree, in, picks []int) {
	t.Helper()
	var s spoiler
	o, a := tell.Run(x, in)
	s.outcome(&o)
	o, b := tell.Order(x, in, picks)
	s.outcome(&o)
	o, c := tell.After(x, in, 17)
	s.outcome(&o)
	h, d := tell.Log(x, in)
	for i := range h.Actors {
		overwrite(&s, &h.Actors[i].Path, api.Hop{Site: -7777})
	}
	s.vars(h.Vars)
	for i := range h.Events {
		s.elem(&h.Events[i].E)
	}
	overwrite(&s, &h.Events, api.Event{Kind: 99})
	l, e := tell.Times(x, in)
	overwrite(&s, &l, -7777)
	p, f := tell.Paths(x, in)
	for i := range p {
		overwrite(&s, &p[i], api.Hop{Site: -7777})
	}
	if s.shared {
		t.Errorf("a result shares memory")
	}
	if errs := []api.Errno{a, b, c, d, e, f}; !slices.Equal(errs, make([]api.Errno, 6)) {
		t.Errorf("errors: %v", errs)
	}
}

// spoiler overwrites lists with their spare room; it is shared if a list was overwritten before.
type spoiler struct{ shared bool }

func overwrite[T any](s *spoiler, l *[]T, by T) {
	all := (*l)[:cap(*l)]
	for i := range all {
		if same(all[i], by) {
			s.shared = true
		}
		all[i] = by
	}
}

func (s *spoiler) outcome(o *api.Outcome) {
	s.vars(o.Vars)
	overwrite(s, &o.Fails, -7777)
	for i := range o.Waits {
		overwrite(s, &o.Waits[i].Path, api.Hop{Site: -7777})
	}
	overwrite(s, &o.Waits, api.Wait{Site: -7777})
	overwrite(s, &o.Vars, api.VarState{Site: -7777})
}

func (s *spoiler) vars(l []api.VarState) {
	for i := range l {
		overwrite(s, &l[i].Path, api.Hop{Site: -7777})
		s.shape(&l[i].Shape)
		s.elem(&l[i].E)
	}
}

func (s *spoiler) shape(x *api.Shape) {
	for i := range x.Kids {
		s.shape(&x.Kids[i])
	}
	overwrite(s, &x.Kids, api.Shape{Kind: 99})
}

func (s *spoiler) elem(x *api.Elem) {
	overwrite(s, &x.Keys, -7777)
	for i := range x.Kids {
		s.elem(&x.Kids[i])
	}
	overwrite(s, &x.Kids, api.Elem{Kind: 99})
}

// R4: what compares outcomes leaves them as they are; what is found is another one.
func TestOutcomesStay(t *testing.T) {
	roomy := func() api.Outcome {
		o := some()
		slices.Reverse(o.Vars)
		slices.Reverse(o.Fails)
		o.Vars = append(o.Vars, api.VarState{Site: 77})[:len(o.Vars)]
		o.Fails = append(o.Fails, 77)[:len(o.Fails)]
		o.Waits = append(o.Waits, api.Wait{Site: 77})[:len(o.Waits)]
		o.Vars[1].Path = append(o.Vars[1].Path, api.Hop{Site: 77})[:1]
		o.Vars[3].E.Keys = append(o.Vars[3].E.Keys, 77)[:2]
		return o
	}
	a, b, keep := roomy(), roomy(), roomy()
	l := append(tintTable(), api.Table{Name: "spare"})
	for range 2 {
		is, e := tell.Below(l[:1], a, b)
		if !is || e != api.OK || !tell.Agree(a, b) {
			t.Errorf("Below and Agree: %v, %v", is, e)
		}
		for _, v := range keep.Vars {
			got, e := tell.Find(a, v.Path, v.Site)
			if e != api.OK || !same(got, v) {
				t.Errorf("Find: %v, %+v", e, got)
			}
			var s spoiler
			s.vars([]api.VarState{got})
			if s.shared {
				t.Errorf("Find: a result shares memory")
			}
		}
	}
	for _, o := range []api.Outcome{a, b} {
		isSame := same(o.Vars[:5], keep.Vars[:5]) && same(o.Fails[:4], keep.Fails[:4]) && same(o.Waits[:3], keep.Waits[:3])
		if !isSame || !same(o.Vars[1].Path[:2], keep.Vars[1].Path[:2]) || !same(o.Vars[3].E.Keys[:3], keep.Vars[3].E.Keys[:3]) {
			t.Errorf("an outcome has changed: %+v", o)
		}
	}
	if l[1].Name != "spare" || !same(l[:1], tintTable()) {
		t.Errorf("the tables have changed: %v", l)
	}
}

// R4: what is found has lists of its own, also where there is one list twice, and where one is empty and has room.
func TestFindIsNew(t *testing.T) {
	two, kid := []api.Elem{intOf(1), setOf(2, 3)}, []api.Shape{{Kind: 1}, {Kind: 2}}
	roomy, roomyShape := []api.Elem{intOf(7)}, []api.Shape{{Kind: 7}}
	keys, path := []int{9}, hops(8, 8)
	v := api.VarState{
		Path:  path[:0],
		Shape: api.Shape{Kids: []api.Shape{{Kids: kid}, {Kids: kid}, {Kids: roomyShape[:0]}}},
		E:     api.Elem{Keys: keys[:0], Kids: []api.Elem{{Kids: two}, {Kids: two}, {Kids: roomy[:0]}}},
	}
	text := fmt.Sprint(v, two, kid, roomy, roomyShape, keys, path)
	got, e := tell.Find(api.Outcome{Vars: []api.VarState{v}}, nil, 0)
	if e != api.OK || !same(got, v) {
		t.Errorf("Find: %v, %v", e, got)
	}
	var s spoiler
	s.vars([]api.VarState{got})
	if s.shared || fmt.Sprint(v, two, kid, roomy, roomyShape, keys, path) != text {
		t.Errorf("Find: the result shares memory: %v", v)
	}
}

// R3: nil and empty lists are the same.
func TestNilAndEmpty(t *testing.T) {
	x := program(t, "task main() { share x: set; put x {1}; }")
	for _, l := range [][]int{nil, {}} {
		if got := answers(x, l, l, 1); got != answers(x, nil, nil, 1) || !strings.Contains(got, "var main 0 set = {1}") {
			t.Errorf("with empty lists: %s", got)
		}
		for _, n := range [][]api.TreeNode{nil, {}} {
			if _, e := tell.Run(api.Tree{Nodes: n}, l); e != api.ErrForm {
				t.Errorf("Run of nothing: %v", e)
			}
		}
	}
	for _, l := range [][]api.Table{nil, {}} {
		if is, e := tell.Below(l, api.Outcome{Vars: []api.VarState{}}, api.Outcome{}); !is || e != api.OK {
			t.Errorf("Below of nothing: %v, %v", is, e)
		}
	}
}

// P1: values that no function has made, also with lists in themselves.
func TestStrangeOutcomes(t *testing.T) {
	loopElem, loopShape := make([]api.Elem, 2), make([]api.Shape, 2)
	for i := range 2 {
		loopElem[i] = api.Elem{Kind: api.ElemPair, Kids: loopElem}
		loopShape[i] = api.Shape{Kind: api.ShapePair, Kids: loopShape}
	}
	deepElem, deepShape := api.Elem{}, api.Shape{Kind: api.ShapeFlag}
	for range 60000 {
		deepElem = api.Elem{Kind: api.ElemMap, Keys: []int{1}, Kids: []api.Elem{deepElem}}
		deepShape = api.Shape{Kind: api.ShapeMap, Kids: []api.Shape{deepShape}}
	}
	sharedElem, sharedShape := []api.Elem{{}}, []api.Shape{{}}
	for range 60 {
		sharedElem = []api.Elem{{Kids: sharedElem}, {Kids: sharedElem}}
		sharedShape = []api.Shape{{Kids: sharedShape}, {Kids: sharedShape}}
	}
	l := []api.VarState{
		{E: api.Elem{Kind: 99, N: math.MinInt, Keys: []int{3, 3}}, Shape: api.Shape{Kind: 99, Name: "\x00"}},
		{Path: []api.Hop{{Site: math.MinInt, Piece: math.MaxInt}}, Site: math.MinInt},
		{E: loopElem[0], Shape: shape("pair(flag, flag)")},
		{Shape: loopShape[0]},
		{E: loopElem[1], Shape: loopShape[1]},
		{E: deepElem, Shape: deepShape},
		{E: api.Elem{Kids: sharedElem}, Shape: api.Shape{Kids: sharedShape}},
	}
	for i, v := range l {
		for j, w := range l {
			a, b := api.Outcome{Vars: []api.VarState{v}}, api.Outcome{Vars: []api.VarState{w}}
			isSame := i == j
			if tell.Agree(a, b) != isSame {
				t.Errorf("Agree of %d and %d", i, j)
			}
			if is, e := tell.Below(nil, a, b); is || e != api.ErrForm {
				t.Errorf("Below of %d and %d: %v, %v", i, j, is, e)
			}
		}
		if i == len(l)-1 {
			continue // a copy of it is too large
		}
		got, e := tell.Find(api.Outcome{Vars: l[i:]}, v.Path, v.Site)
		if e != api.OK || got.Site != v.Site || got.E.Kind != v.E.Kind || got.Shape.Kind != v.Shape.Kind {
			t.Errorf("Find of %d: %v", i, e)
		}
		if i != 5 { // it is deep, so to look at all of it again and again takes long
			new(spoiler).vars([]api.VarState{got})
		}
	}
	if loopElem[0].Kind != api.ElemPair || loopElem[1].Kind != api.ElemPair || loopShape[0].Kind != api.ShapePair || loopShape[1].Kind != api.ShapePair {
		t.Errorf("Find shares lists that are in themselves")
	}
	// As many levels, but one is another one; the same list with fewer of its elements.
	other := api.Shape{Kind: api.ShapeMax}
	for range 60000 {
		other = api.Shape{Kind: api.ShapeMap, Kids: []api.Shape{other}}
	}
	three := []api.Shape{{Kind: 1}, {Kind: 2, Kids: []api.Shape{{Kind: 3}}}, {Kind: 3}}
	four := []api.Shape{{Kind: 1}, {Kind: 2, Kids: []api.Shape{{Kind: 3}}}, {Kind: 4}}
	for i, c := range [][2]api.Shape{
		{deepShape, other},
		{{Kids: three}, {Kids: four}},
		{{Kids: []api.Shape{{Kids: three[:1]}, {Kids: three}}}, {Kids: []api.Shape{{Kids: four[:1]}, {Kids: four}}}},
		{{Kids: []api.Shape{{Kids: three}, {Kids: four}}}, {Kids: []api.Shape{{Kids: three}, {Kids: three}}}},
		{{Kids: []api.Shape{{Kids: three[:2]}, {Kids: three[:2]}}}, {Kids: []api.Shape{{Kids: four[:2]}, {Kids: four[:1]}}}},
	} {
		a, b := api.Outcome{Vars: []api.VarState{{Shape: c[0]}}}, api.Outcome{Vars: []api.VarState{{Shape: c[1]}}}
		if tell.Agree(a, b) || tell.Agree(b, a) || !tell.Agree(a, a) || !tell.Agree(b, b) {
			t.Errorf("Agree of the shapes %d", i)
		}
	}
}
