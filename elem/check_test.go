package elem_test

import (
	"math"
	"math/rand"
	"slices"
	"strings"
	"testing"

	"dripstone/api"
	"dripstone/elem"
	"dripstone/order"
)

// errorsOf returns the errors of all functions with a lattice, called with the same elements, text and bytes. With an error everything else must be zero.
func errorsOf(t *testing.T, l api.Lattice, a, b api.Elem, s string, bytes []byte) []api.Errno {
	t.Helper()
	list := []api.Elem{a, b}
	out := []api.Errno{elem.Check(l, a)}
	add := func(zero bool, e api.Errno) {
		t.Helper()
		if e != api.OK && !zero {
			t.Errorf("with the error %v there is a result", e)
		}
		out = append(out, e)
	}
	x, e := elem.Join(l, a, b)
	add(same(x, none), e)
	x, e = elem.JoinAll(l, list)
	add(same(x, none), e)
	is, e := elem.Below(l, a, b)
	add(!is, e)
	is, e = elem.IsWrong(l, a)
	add(!is, e)
	is, e = elem.Excludes(l, a, b)
	add(!is, e)
	pieces, e := elem.Pieces(l, a)
	add(len(pieces) == 0, e)
	x, e = elem.Delta(l, a, b)
	add(same(x, none), e)
	written, e := elem.Text(l, a)
	add(written == "", e)
	packed, e := elem.Bytes(l, a)
	add(len(packed) == 0, e)
	x, e = elem.Parse(l, s)
	add(same(x, none), e)
	x, e = elem.Read(l, bytes)
	add(same(x, none), e)
	return out
}

// wrongLattices returns lattices with each of the errors of order.CheckShape.
func wrongLattices(t *testing.T) []api.Lattice {
	deep := api.Shape{Kind: api.ShapeFlag}
	for range 4 {
		deep = api.Shape{Kind: api.ShapeMap, Kids: []api.Shape{deep}}
	}
	own := make([]api.Shape, 1)
	own[0] = api.Shape{Kind: api.ShapeMap, Kids: own}
	twice := append(tables(), tables()[2])
	broken := append(tables(), api.Table{Name: "x", Elems: []string{"a", "b"}, Above: [][]int{nil, nil}, Wrong: []bool{false, false}})
	out := []api.Lattice{
		{}, {Shape: api.Shape{Kind: 8}}, {Shape: deep}, {Shape: own[0]}, {Tables: slices.Concat(tables(), tables()), Shape: deep},
		{Tables: make([]api.Table, 9), Shape: lattice("set").Shape}, {Tables: make([]api.Table, 1), Shape: lattice("set").Shape},
		{Tables: twice, Shape: lattice("set").Shape}, {Tables: broken, Shape: lattice("set").Shape}, {Tables: tables(), Shape: lattice("map(set)").Shape.Kids[0]},
		{Shape: lattice("l").Shape}, {Tables: tables()[1:], Shape: lattice("pair(set, map(l))").Shape}, {Shape: api.Shape{Kind: api.ShapeSet, Name: "l"}}, {Shape: api.Shape{Kind: api.ShapePair, Kids: deep.Kids}},
	}
	seen := map[api.Errno]bool{}
	out = slices.DeleteFunc(out, func(l api.Lattice) bool {
		e := order.CheckShape(l.Tables, l.Shape)
		seen[e] = true
		return e == api.OK
	})
	for _, e := range []api.Errno{api.ErrLimit, api.ErrForm, api.ErrTwice, api.ErrFalse, api.ErrNone} {
		if !seen[e] {
			t.Fatalf("no lattice with the error %v", e)
		}
	}
	return out
}

// All functions with a lattice have first its errors, whatever else is wrong.
func TestWrongLattices(t *testing.T) {
	over := setOf(upTo(0, 41)...)
	for _, l := range wrongLattices(t) {
		want := order.CheckShape(l.Tables, l.Shape)
		for _, x := range []struct {
			a, b  api.Elem
			s     string
			bytes []byte
		}{
			{none, none, "none", []byte{0}},
			{over, name(-1), strings.Repeat("x", api.MaxText+1), make([]byte, api.MaxPacked+1)},
			{setOf(upTo(0, 40)...), setOf(50), "?", []byte{9}},
			{name(1), name(1), "#b", []byte{4, 1}},
		} {
			for i, e := range errorsOf(t, l, x.a, x.b, x.s, x.bytes) {
				if e != want {
					t.Errorf("%v: the function %d has the error %v; not %v", l, i, e, want)
				}
			}
			if e := right(elem.JoinAll(lattice("set"), nil)); !same(e, none) {
				t.Errorf("JoinAll of nothing: %v", e)
			}
			if e, err := elem.JoinAll(l, nil); !same(e, none) || err != want {
				t.Errorf("JoinAll of nothing: %v, %v; not %v", e, err, want)
			}
		}
	}
}

// spoilt returns elements that are like one of a lattice, but for one thing: most of them, but not all, are none of it.
func spoilt(l api.Lattice, e api.Elem) []api.Elem {
	var out []api.Elem
	change := func(with func(*api.Elem)) {
		x := copied(e)
		with(&x)
		out = append(out, x)
	}
	for _, n := range []int{math.MinInt, -api.MaxNumber - 1, -api.MaxNumber, -1, 0, 1, 2, 3, 4, 5, 6, 12, api.MaxNumber, api.MaxNumber + 1, math.MaxInt} {
		change(func(x *api.Elem) { x.N = n })
		change(func(x *api.Elem) { x.Keys = append(x.Keys, n) })
		change(func(x *api.Elem) { x.Keys = append([]int{n}, x.Keys...) })
		for i := range e.Keys {
			change(func(x *api.Elem) { x.Keys[i] = n })
		}
	}
	for kind := range 256 {
		if kind < 12 || kind > 250 {
			change(func(x *api.Elem) { x.Kind = uint8(kind) })
		}
	}
	change(func(x *api.Elem) { x.Keys = nil })
	change(func(x *api.Elem) { x.Kids = nil })
	change(func(x *api.Elem) { x.Keys, x.Kids = nil, nil })
	for _, kid := range []api.Elem{none, on, number(3), clash, name(1), setOf(1), mapOf([]int{1}, on), pairOf(on, on)} {
		change(func(x *api.Elem) { x.Kids = append(x.Kids, kid) })
		change(func(x *api.Elem) { x.Kids, x.Keys = append(x.Kids, kid), append(x.Keys, 999) })
		for i := range e.Kids {
			change(func(x *api.Elem) { x.Kids[i] = kid })
		}
	}
	if len(e.Keys) > 1 {
		change(func(x *api.Elem) { slices.Reverse(x.Keys) })
		change(func(x *api.Elem) { x.Keys = x.Keys[1:] })
	}
	if len(e.Kids) > 1 {
		change(func(x *api.Elem) { x.Kids = x.Kids[1:] })
		change(func(x *api.Elem) { x.Kids[0], x.Kids[1] = none, none })
	}
	for i, kid := range e.Kids {
		for _, y := range spoilt(l, kid) {
			if i == 0 || y.N == 12 || y.Kind > 5 {
				change(func(x *api.Elem) { x.Kids[i] = y })
			}
		}
	}
	return out
}

// P4.1: Check, of elements of each shape, of those of other ones, and of spoilt ones; other functions have the same error.
func TestCheck(t *testing.T) {
	r := rand.New(rand.NewSource(1))
	count := 0
	for _, shape := range shapeTexts {
		l := lattice(shape)
		var elems []api.Elem
		for _, other := range shapeTexts {
			elems = append(elems, someElem(r, lattice(other), 4))
		}
		for range 3 {
			x := someElem(r, l, 3)
			elems = append(append(elems, x), spoilt(l, x)...)
		}
		for _, e := range elems {
			want := api.ErrArg
			if modelHas(l, e) {
				want = api.OK
				count++
			}
			if err := elem.Check(l, e); err != want {
				t.Fatalf("%s: Check of %v: %v; not %v", shape, e, err, want)
			}
			if want == api.OK || r.Intn(30) > 0 {
				continue
			}
			for i, err := range errorsOf(t, l, e, none, "", nil)[:10] {
				if err != api.ErrArg {
					t.Errorf("%s: the function %d of %v: %v", shape, i, e, err)
				}
			}
			_, e1 := elem.Join(l, none, e)
			_, e2 := elem.Below(l, none, e)
			_, e3 := elem.Excludes(l, none, e)
			_, e4 := elem.Delta(l, none, e)
			_, e5 := elem.JoinAll(l, []api.Elem{none, none, e, none})
			if errs := []api.Errno{e1, e2, e3, e4, e5}; slices.ContainsFunc(errs, func(e api.Errno) bool { return e != api.ErrArg }) {
				t.Errorf("%s: a second element %v: %v", shape, e, errs)
			}
		}
	}
	if count < 1000 {
		t.Errorf("only %d elements were right", count)
	}
}

// P4.1: elements at the limits, written here.
func TestCheckLimits(t *testing.T) {
	most := api.MaxNumber
	for _, x := range []struct {
		shape string
		e     api.Elem
		is    bool
	}{
		{"max", number(most), true}, {"max", number(-most), true}, {"max", number(most + 1), false}, {"max", number(-most - 1), false}, {"max", number(math.MinInt), false},
		{"once", number(most), true}, {"once", number(-most), true}, {"once", number(most + 1), false}, {"once", number(-most - 1), false},
		{"max", clash, false}, {"once", clash, true}, {"once", api.Elem{Kind: api.ElemClash, N: 1}, false}, {"flag", on, true}, {"flag", api.Elem{Kind: api.ElemOn, N: 1}, false},
		{"l", name(3), true}, {"l", name(4), false}, {"l", name(0), false}, {"l", name(-1), false}, {"l", name(1), true}, {"q", name(5), true}, {"q", name(6), false}, {"one", name(1), false}, {"one", none, true},
		{"set", setOf(upTo(0, 40)...), true}, {"set", setOf(upTo(0, 41)...), false}, {"set", setOf(), false}, {"set", setOf(-most, most), true}, {"set", setOf(-most-1, 0), false}, {"set", setOf(0, most+1), false}, {"set", setOf(1, 1), false}, {"set", setOf(math.MinInt), false},
		{"map(flag)", mapOf(upTo(0, 40), times(40, on)...), true}, {"map(flag)", mapOf(upTo(0, 41), times(41, on)...), false}, {"map(flag)", mapOf(nil), false}, {"map(flag)", mapOf(upTo(0, 3), on, none, on), false}, {"map(flag)", mapOf(upTo(0, 3), on, on), false}, {"map(flag)", mapOf(upTo(0, 2), on, on, on), false},
		{"map(set)", mapOf([]int{0}, setOf(upTo(0, 40)...)), true}, {"map(set)", mapOf([]int{0}, setOf(upTo(0, 41)...)), false}, {"map(flag)", mapOf([]int{-most, most}, on, on), true}, {"map(flag)", mapOf([]int{2, 1}, on, on), false},
		{"pair(flag, max)", pairOf(on, none), true}, {"pair(flag, max)", pairOf(none, number(1)), true}, {"pair(flag, max)", pairOf(none, none), false}, {"pair(flag, max)", pairOf(number(1), on), false}, {"pair(flag, max)", pairOf(on), false}, {"pair(flag, max)", pairOf(on, none, none), false}, {"pair(flag, max)", pairOf(), false},
		{"flag", api.Elem{Keys: []int{}, Kids: []api.Elem{}}, true}, {"flag", api.Elem{Kind: api.ElemOn, Keys: []int{}, Kids: []api.Elem{}}, true}, {"set", api.Elem{Kind: api.ElemSet, Keys: []int{1}, Kids: []api.Elem{}}, true}, {"set", api.Elem{Kind: api.ElemSet, Keys: []int{1}, Kids: []api.Elem{none}}, false},
		{"flag", api.Elem{N: 1}, false}, {"set", api.Elem{Keys: []int{1}}, false}, {"pair(flag, flag)", api.Elem{Kids: []api.Elem{on, on}}, false}, {"map(flag)", api.Elem{Kids: []api.Elem{none}}, false},
	} {
		if err := elem.Check(lattice(x.shape), x.e); (err == api.OK) != x.is || !x.is && err != api.ErrArg {
			t.Errorf("%s: Check of %v: %v", x.shape, x.e, err)
		}
	}
}

// A name means an element of the table that the shape names, wherever this stands.
func TestTables(t *testing.T) {
	for i, x := range tables() {
		for _, shape := range []string{x.Name, "map(" + x.Name + ")", "pair(" + x.Name + ", set)"} {
			l := lattice(shape)
			for n := range 14 {
				e := name(n)
				switch l.Shape.Kind {
				case api.ShapeMap:
					e = mapOf([]int{-4}, e)
				case api.ShapePair:
					e = pairOf(e, setOf(1))
				}
				is := n > 0 && n < len(x.Elems)
				if err := elem.Check(l, e); (err == api.OK) != is {
					t.Errorf("%s: Check of %v: %v", shape, e, err)
				}
				if is && !strings.Contains(text(l, e), "#"+x.Elems[n]) {
					t.Errorf("%s: Text of %v, of the table %d: %q", shape, e, i, text(l, e))
				}
				if is && right(elem.IsWrong(l, e)) != x.Wrong[n] {
					t.Errorf("%s: IsWrong of %v", shape, e)
				}
			}
		}
	}
}
