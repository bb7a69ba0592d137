package tell_test

import (
	"fmt"
	"math/rand"
	"slices"
	"testing"

	"dripstone/api"
	"dripstone/order"
	"dripstone/tell"
)

func hops(l ...int) []api.Hop {
	var out []api.Hop
	for i := 0; i < len(l); i += 2 {
		out = append(out, api.Hop{Site: l[i], Piece: l[i+1]})
	}
	return out
}

func setOf(keys ...int) api.Elem { return api.Elem{Kind: api.ElemSet, Keys: keys} }

func intOf(n int) api.Elem { return api.Elem{Kind: api.ElemInt, N: n} }

func pairOf(a, b api.Elem) api.Elem { return api.Elem{Kind: api.ElemPair, Kids: []api.Elem{a, b}} }

// some returns an outcome in which all is there.
func some() api.Outcome {
	return api.Outcome{
		Vars: []api.VarState{
			{Site: 0, Shape: shape("set"), E: setOf(1, 5)},
			{Site: 3, Shape: shape("pair(map(max), tint)"), E: pairOf(api.Elem{Kind: api.ElemMap, Keys: []int{2}, Kids: []api.Elem{intOf(4)}}, api.Elem{Kind: api.ElemName, N: 1})},
			{Path: hops(1, 0), Site: 0, Shape: shape("once"), E: intOf(3)},
			{Path: hops(1, 0, 4, -7), Site: 2, Shape: shape("flag")},
		},
		Fails: []int{-1, 4, 4},
		Waits: []api.Wait{{Path: hops(1, 0), Site: 3}, {Path: hops(5, 0), Site: 1}},
		Tasks: 9,
		Steps: 30,
	}
}

func tintTable() []api.Table {
	x, _ := order.Parse("lattice tint { none: red, blue; red: both; blue: both; both! }")
	return []api.Table{x}
}

// P6.7: Find.
func TestFind(t *testing.T) {
	o := some()
	for i, v := range o.Vars {
		got, e := tell.Find(o, v.Path, v.Site)
		if e != api.OK || !same(got, o.Vars[i]) {
			t.Errorf("Find of %v, %d: %v, %+v", v.Path, v.Site, e, got)
		}
	}
	if got, e := tell.Find(o, []api.Hop{}, 3); e != api.OK || !same(got, o.Vars[1]) {
		t.Errorf("Find with an empty path: %v, %+v", e, got)
	}
	for _, c := range []struct {
		path []api.Hop
		site int
	}{{nil, 1}, {nil, -1}, {hops(0, 0), 0}, {hops(1, 1), 0}, {hops(2, 0), 0}, {hops(1, 0), 2}, {hops(1, 0, 4, -7, 0, 0), 2}, {hops(4, -7), 2}, {hops(1, 0, 4, 7), 2}} {
		if got, e := tell.Find(o, c.path, c.site); e != api.ErrNone || !same(got, api.VarState{}) {
			t.Errorf("Find of %v, %d: %v, %+v", c.path, c.site, e, got)
		}
	}
	if _, e := tell.Find(api.Outcome{}, nil, 0); e != api.ErrNone {
		t.Errorf("Find in nothing: %v", e)
	}
	// The first one of several, whatever it is.
	o.Vars = append(o.Vars, o.Vars[0])
	o.Vars[0].E = api.Elem{Kind: 99, N: -5, Keys: []int{3, 1}, Kids: []api.Elem{{}, {Kind: 7, Keys: []int{2}}}}
	o.Vars[0].Shape = api.Shape{Kind: 77, Name: "?", Kids: []api.Shape{{}, {Name: "!", Kids: []api.Shape{{Kind: 3}}}}}
	if got, e := tell.Find(o, nil, 0); e != api.OK || !same(got, o.Vars[0]) {
		t.Errorf("Find of two: %v, %+v", e, got)
	}
}

// changes returns all outcomes that differ from one in a single thing.
func changes() []api.Outcome {
	var out []api.Outcome
	for _, f := range []func(*api.Outcome){
		func(o *api.Outcome) { o.Tasks++ },
		func(o *api.Outcome) { o.Tasks-- },
		func(o *api.Outcome) { o.Steps++ },
		func(o *api.Outcome) { o.Steps-- },
		func(o *api.Outcome) { o.Fails = o.Fails[1:] },
		func(o *api.Outcome) { o.Fails = o.Fails[:2] },
		func(o *api.Outcome) { o.Fails = append(o.Fails, 4) },
		func(o *api.Outcome) { o.Fails = append(o.Fails, 5) },
		func(o *api.Outcome) { o.Fails[1] = -1 },
		func(o *api.Outcome) { o.Fails = []int{4, -1, 4} },
		func(o *api.Outcome) { o.Fails = nil },
		func(o *api.Outcome) { o.Waits = o.Waits[:1] },
		func(o *api.Outcome) { o.Waits = nil },
		func(o *api.Outcome) { o.Waits[0].Site = 4 },
		func(o *api.Outcome) { o.Waits[0].Path[0].Piece = 1 },
		func(o *api.Outcome) { o.Waits[0].Path[0].Site = 2 },
		func(o *api.Outcome) { o.Waits[0].Path = nil },
		func(o *api.Outcome) { o.Waits[0], o.Waits[1] = o.Waits[1], o.Waits[0] },
		func(o *api.Outcome) { o.Vars = o.Vars[:3] },
		func(o *api.Outcome) { o.Vars = o.Vars[1:] },
		func(o *api.Outcome) { o.Vars = nil },
		func(o *api.Outcome) { o.Vars[0], o.Vars[1] = o.Vars[1], o.Vars[0] },
		func(o *api.Outcome) { o.Vars[0].Site = 1 },
		func(o *api.Outcome) { o.Vars[2].Path[0].Piece = 1 },
		func(o *api.Outcome) { o.Vars[2].Path[0].Site = 0 },
		func(o *api.Outcome) { o.Vars[2].Path = hops(1, 0, 0, 0) },
		func(o *api.Outcome) { o.Vars[3].Path = hops(1, 0) },
		func(o *api.Outcome) { o.Vars[3].Shape = shape("max") },
		func(o *api.Outcome) { o.Vars[2].Shape = shape("max") },
		func(o *api.Outcome) { o.Vars[0].E.Keys = []int{1} },
		func(o *api.Outcome) { o.Vars[0].E.Keys = []int{1, 6} },
		func(o *api.Outcome) { o.Vars[0].E = api.Elem{} },
		func(o *api.Outcome) { o.Vars[1].E.Kids[0].Kids[0].N = 5 },
		func(o *api.Outcome) { o.Vars[1].E.Kids[0].Kids[0].N = 3 },
		func(o *api.Outcome) { o.Vars[1].E.Kids[1].N = 2 },
		func(o *api.Outcome) { o.Vars[1].E.Kids[1].N = 3 },
		func(o *api.Outcome) { o.Vars[1].E.Kids[1] = api.Elem{} },
		func(o *api.Outcome) { o.Vars[1].E.Kids[0].Keys[0] = 1 },
		func(o *api.Outcome) { o.Vars[2].E = api.Elem{Kind: api.ElemClash} },
		func(o *api.Outcome) { o.Vars[3].E = api.Elem{Kind: api.ElemOn} },
		func(o *api.Outcome) { o.Vars = append(o.Vars, api.VarState{Site: 9, Shape: shape("max")}) },
	} {
		o := some()
		f(&o)
		out = append(out, o)
	}
	return out
}

// P6.7: Agree.
func TestAgree(t *testing.T) {
	if !tell.Agree(some(), some()) || !tell.Agree(api.Outcome{}, api.Outcome{}) {
		t.Errorf("an outcome does not agree with itself")
	}
	l := append(changes(), some())
	// Shapes in which the values are none: names, kinds and levels of shapes count, too.
	for _, s := range []string{"pair(map(max), other)", "pair(map(set), tint)", "pair(tint, map(max))", "pair(max, tint)", "map(max)"} {
		o := some()
		o.Vars[1].Shape = shape(s)
		l = append(l, o)
	}
	for i, a := range l {
		for j, b := range l {
			if tell.Agree(a, b) != (i == j) {
				t.Errorf("Agree of %+v and %+v: %v", a, b, i != j)
			}
		}
	}
	a, b := some(), some()
	a.Vars[0].Path, a.Vars[0].Shape.Kids, a.Vars[0].E.Kids, b.Vars[0].Path = nil, []api.Shape{}, []api.Elem{}, []api.Hop{}
	a.Vars[3].E.Keys = []int{}
	if !tell.Agree(a, b) || !tell.Agree(api.Outcome{Vars: []api.VarState{}, Fails: []int{}, Waits: []api.Wait{}}, api.Outcome{}) {
		t.Errorf("empty lists differ")
	}
}

// below tells what Below has to, by going through all.
func below(l []api.Table, a, b api.Outcome) bool {
	for _, v := range a.Vars {
		is := false
		for _, w := range b.Vars {
			is = is || same(v.Path, w.Path) && v.Site == w.Site && same(v.Shape, w.Shape) && isUnder(v.E, w.E)
		}
		if !is {
			return false
		}
	}
	for _, n := range a.Fails {
		count := func(l []int) int {
			return len(slices.DeleteFunc(slices.Clone(l), func(x int) bool { return x != n }))
		}
		if count(a.Fails) > count(b.Fails) {
			return false
		}
	}
	return a.Tasks <= b.Tasks && a.Steps <= b.Steps
}

// isUnder tells whether an element of one of these outcomes is below another one; a once has no two integers.
func isUnder(a, b api.Elem) bool {
	switch {
	case a.Kind == api.ElemNone || b.Kind == api.ElemClash:
		return true
	case a.Kind != b.Kind:
		return false
	case a.Kind == api.ElemInt:
		return a.N <= b.N
	case a.Kind == api.ElemName:
		return a.N == b.N || b.N == 3
	case a.Kind == api.ElemPair:
		return isUnder(a.Kids[0], b.Kids[0]) && isUnder(a.Kids[1], b.Kids[1])
	}
	for i, key := range a.Keys {
		j := slices.Index(b.Keys, key)
		if j < 0 || a.Kind == api.ElemMap && !isUnder(a.Kids[i], b.Kids[j]) {
			return false
		}
	}
	return true
}

// P6.7: Below.
func TestBelow(t *testing.T) {
	l := tintTable()
	all := append(changes(), some(), api.Outcome{})
	yes, no := 0, 0
	for _, a := range all {
		for _, b := range all {
			want := below(l, a, b)
			is, e := tell.Below(l, a, b)
			if is != want || e != api.OK {
				t.Errorf("Below of %+v and %+v: %v, %v", a, b, is, e)
			}
			if want {
				yes++
			} else {
				no++
			}
		}
	}
	if yes < 300 || no < 300 {
		t.Errorf("Below: %d times, and %d times not", yes, no)
	}
}

// P6.7: the error of Below, of the first outcome and of the second one.
func TestBelowErrors(t *testing.T) {
	l := tintTable()
	spoils := []func(*api.Outcome){
		func(o *api.Outcome) { o.Vars[0].E.Keys = []int{5, 1} },
		func(o *api.Outcome) { o.Vars[0].E.Kind = api.ElemOn },
		func(o *api.Outcome) { o.Vars[3].E.N = 1 },
		func(o *api.Outcome) { o.Vars[1].E.Kids[1].N = 4 },
		func(o *api.Outcome) { o.Vars[2].E.N = api.MaxNumber + 1 },
		func(o *api.Outcome) { o.Vars[3].Shape = api.Shape{} },
		func(o *api.Outcome) { o.Vars[3].Shape = api.Shape{Kind: 99} },
		func(o *api.Outcome) { o.Vars[3].Shape = shape("map(map(map(map(map(flag)))))") },
		func(o *api.Outcome) { o.Vars[3].Shape = shape("map(map(map(map(flag))))") },
		func(o *api.Outcome) { o.Vars[3].Shape = shape("other") },
		func(o *api.Outcome) { o.Vars = append(o.Vars, o.Vars[3]) },
		func(o *api.Outcome) { o.Vars[1].Site = 0 },
		func(o *api.Outcome) { o.Vars[3].Path, o.Vars[3].Site = hops(1, 0), 0 },
		func(o *api.Outcome) {
			o.Vars = slices.Insert(o.Vars, 0, api.VarState{Path: hops(1, 0), Shape: shape("max")})
		},
	}
	for i, spoil := range spoils {
		bad := some()
		spoil(&bad)
		for _, c := range [][2]api.Outcome{{bad, some()}, {some(), bad}, {bad, bad}, {bad, {}}, {{}, bad}} {
			if is, e := tell.Below(l, c[0], c[1]); is || e != api.ErrForm {
				t.Errorf("spoilt by %d: %v, %v", i, is, e)
			}
		}
	}
	// As many levels as there may be.
	o := some()
	o.Vars[3].Shape = shape("map(map(map(flag)))")
	if is, e := tell.Below(l, o, o); !is || e != api.OK {
		t.Errorf("Below of a shape with 4 levels: %v, %v", is, e)
	}
	// With tables that are none no shape is right; without variables there is none.
	for i, spoilt := range [][]api.Table{nil, {l[0], l[0]}, slices.Repeat(l, 9), {{Name: "tint"}}, {{Name: "tint", Elems: []string{"a", "b"}, Above: [][]int{nil, nil}, Wrong: []bool{false, false}}}} {
		if is, e := tell.Below(spoilt, some(), some()); is || e != api.ErrForm {
			t.Errorf("Below with tables %d: %v, %v", i, is, e)
		}
		if is, e := tell.Below(spoilt, api.Outcome{Fails: []int{1}}, api.Outcome{Fails: []int{1, 1}}); !is || e != api.OK {
			t.Errorf("Below with tables %d and without variables: %v, %v", i, is, e)
		}
	}
}

// P6.7: outcomes with many variables, in any order.
func TestMany(t *testing.T) {
	r := rand.New(rand.NewSource(7))
	var o api.Outcome
	for i := range 20000 {
		o.Vars = append(o.Vars, api.VarState{Path: hops(i%100, i/100), Site: i % 7, Shape: api.Shape{Kind: api.ShapeMax}, E: intOf(i)})
	}
	p := api.Outcome{Vars: slices.Clone(o.Vars)}
	r.Shuffle(len(p.Vars), func(i, j int) { p.Vars[i], p.Vars[j] = p.Vars[j], p.Vars[i] })
	is, e := tell.Below(nil, o, p)
	if !is || e != api.OK || tell.Agree(o, p) {
		t.Errorf("Below of many: %v, %v", is, e)
	}
	p.Vars[777].E.N--
	if is, e := tell.Below(nil, o, p); is || e != api.OK {
		t.Errorf("Below of many, one of which is less: %v, %v", is, e)
	}
	p.Vars[3].Path, p.Vars[3].Site = p.Vars[19000].Path, p.Vars[19000].Site
	if is, e := tell.Below(nil, o, p); is || e != api.ErrForm {
		t.Errorf("Below of many, two of which are one: %v, %v", is, e)
	}
}

// P6.6: how many steps there are at each node, and the paths.
func TestTimesAndPaths(t *testing.T) {
	x := program(t, "task main() { new x: set; all { put x {1, 2}; each x as k { if k > 1 { fail k / 0; } else { fail k; } } spawn f(x); } freeze x as y; let a = size(y) / 0; let b = 1; } task f(x: set) { when x {2} { } put x {1, 2}; }")
	times, e := tell.Times(x, nil)
	var l []string
	for node, n := range times {
		if n > 0 {
			l = append(l, fmt.Sprintf("%d %d", n, x.Nodes[node].Kind))
		}
	}
	want := []string{"1 21", "1 28", "1 24", "1 27", "2 30", "1 31", "1 25", "1 29", "1 26", "1 24"}
	if e != api.OK || len(times) != len(x.Nodes) || !slices.Equal(l, want) {
		t.Errorf("Times: %v, %v, not %v", e, l, want)
	}
	paths, e := tell.Paths(x, nil)
	if e != api.OK || !same(paths, [][]api.Hop{nil, hops(2, 1), hops(2, 2), hops(3, 0)}) {
		t.Errorf("Paths: %v, %v", e, paths)
	}
	for _, s := range right(samples(150, false)) {
		h, _ := tell.Log(s.Tree, s.in)
		times, e := tell.Times(s.Tree, s.in)
		count := make([]int, len(s.Nodes))
		for _, e := range h.Events {
			if isStep(s.Tree, e) {
				count[e.Node]++
			}
		}
		if e != api.OK || !slices.Equal(times, count) {
			t.Fatalf("Times: %v, %v, not %v of %s", e, times, count, shown(s.Tree, 0))
		}
		paths, e := tell.Paths(s.Tree, s.in)
		isSorted := slices.IsSortedFunc(paths, func(a, b []api.Hop) int {
			if pathLess(a, b) {
				return -1
			}
			return 1
		})
		if e != api.OK || len(paths) != len(h.Actors) || !isSorted {
			t.Fatalf("Paths: %v, %v", e, paths)
		}
		for _, a := range h.Actors {
			isIt := func(p []api.Hop) bool { return same(p, a.Path) }
			if !slices.ContainsFunc(paths, isIt) {
				t.Fatalf("Paths: %v without %v", paths, a.Path)
			}
		}
	}
}
