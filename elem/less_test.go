package elem_test

import (
	"math"
	"math/rand"
	"slices"
	"testing"
	"time"

	"dripstone/api"
	"dripstone/elem"
)

// anyElem returns an element of no lattice, as a rule.
func anyElem(r *rand.Rand, levels int) api.Elem {
	e := api.Elem{Kind: uint8(r.Intn(3)), N: r.Intn(3) - 1}
	for range r.Intn(3) {
		e.Keys = append(e.Keys, r.Intn(3)-1)
	}
	if levels > 1 {
		for range r.Intn(4) {
			e.Kids = append(e.Kids, anyElem(r, levels-1))
		}
	}
	return e
}

// P4.8: elements in their order: each one comes before all later ones.
func TestOrder(t *testing.T) {
	list := []api.Elem{
		{N: math.MinInt}, {N: -1}, {}, {Kids: []api.Elem{{}}}, {Kids: []api.Elem{{}, {}}}, {Kids: []api.Elem{{}, on}}, {Kids: []api.Elem{on}}, {Keys: []int{math.MinInt}}, {Keys: []int{0}}, {N: 1}, {N: math.MaxInt},
		on, {Kind: 1, N: 1},
		number(-1000000000), number(-2), number(-1), number(0), number(1), number(2),
		clash, name(1), name(2),
		{Kind: 5}, setOf(-1), setOf(-1, 0), setOf(-1, 1), setOf(1), setOf(1, 0), setOf(1, 2), setOf(1, 2, 3), setOf(1, 3), {Kind: 5, Keys: []int{1, 3}, Kids: []api.Elem{{}}}, setOf(2), {Kind: 5, N: 1},
		mapOf([]int{1}, on), mapOf([]int{1}, number(1)), mapOf([]int{1}, number(2)), mapOf([]int{1, 2}, on, on), mapOf([]int{1, 2}, number(1), number(2)), mapOf([]int{1, 2}, number(1), number(3)), mapOf([]int{1, 2}, number(2), number(0)), mapOf([]int{2}, none),
		pairOf(), pairOf(none), pairOf(none, on), pairOf(none, number(5)), pairOf(on, none), pairOf(on, none, none), pairOf(on, on), pairOf(number(-1), none),
		{Kind: 8}, {Kind: 255, N: math.MinInt}, {Kind: 255, N: math.MaxInt, Keys: []int{1}},
	}
	for i, a := range list {
		for j, b := range list {
			if elem.Less(a, copied(b)) != (i < j) {
				t.Errorf("Less of %v, %v: %v", a, b, i >= j)
			}
		}
	}
}

// P4.8, P4.14: Less is what the definition says; of two that are not equal just one comes before the other.
func TestLess(t *testing.T) {
	r := rand.New(rand.NewSource(9))
	var lists [][]api.Elem
	for _, shape := range shapeTexts {
		lists = append(lists, elemsOf(r, lattice(shape), 60))
	}
	for levels := range 6 {
		var l []api.Elem
		for range 150 {
			e := anyElem(r, levels)
			near := copied(e)
			if len(near.Kids) > 0 {
				near.Kids[len(near.Kids)-1].N++
			}
			l = append(l, e, near)
		}
		lists = append(lists, l)
	}
	for _, l := range lists {
		for _, a := range l {
			for _, b := range l {
				if is, back := elem.Less(a, b), elem.Less(b, a); is != (modelCompare(a, b) < 0) || is && back || !is && !back && !same(a, b) {
					t.Errorf("Less of %v, %v: %v, and the other way: %v", a, b, is, back)
				}
			}
		}
		by := func(a, b api.Elem) int {
			if elem.Less(a, b) {
				return -1
			}
			if elem.Less(b, a) {
				return 1
			}
			return 0
		}
		slices.SortStableFunc(l, by)
		for i, a := range l {
			for _, b := range l[i:] {
				if elem.Less(b, a) {
					t.Errorf("%v comes before %v, and this before that", a, b)
				}
			}
		}
	}
}

// endless returns an element whose kids are, all the way down, its own: so many, one behind the other.
func endless(period, n int) api.Elem {
	all := make([]api.Elem, period)
	for i := range all {
		all[i] = api.Elem{Kind: api.ElemPair, Kids: []api.Elem{{}, {}}}
	}
	for i := range all {
		all[i].Kids[0] = all[(i+1)%period]
		all[i].Kids[1] = all[(i+1)%period]
	}
	all[period-1].Kids[1] = number(n)
	return all[0]
}

// twins returns an element with so many levels, in which each kid is there twice, in the same memory or not.
func twins(levels, n int) api.Elem {
	e := number(n)
	for range levels {
		e = pairOf(e, e)
	}
	return e
}

// tower returns an element with so many levels.
func tower(levels, n int) api.Elem {
	e := number(n)
	for range levels {
		e = mapOf([]int{1}, e)
	}
	return e
}

// P4.8, P1: Less answers of elements with very many levels, with kids that come again and again, and with levels without end.
func TestStrangeElements(t *testing.T) {
	done := make(chan bool)
	go func() {
		defer close(done)
		for _, x := range []struct {
			a, b api.Elem
			want bool
		}{
			{twins(100, 1), twins(100, 2), true}, {twins(100, 2), twins(100, 1), false}, {twins(100, 1), twins(100, 1), false}, {twins(100, 1), twins(101, 1), true}, {twins(101, 1), twins(100, 1), false},
			{tower(1<<16, 1), tower(1<<16, 2), true}, {tower(1<<16, 2), tower(1<<16, 1), false}, {tower(1<<16, 1), tower(1<<16, 1), false}, {tower(500000, 1), tower(500000, 2), true},
			{endless(1, 5), endless(1, 5), false}, {endless(1, 4), endless(1, 5), true}, {endless(1, 5), endless(1, 4), false}, {endless(30, 4), endless(30, 5), true}, {endless(30, 5), endless(30, 4), false},
			{on, endless(3, 1), true}, {endless(3, 1), on, false}, {endless(2, 1), api.Elem{Kind: 8}, true}, {endless(700, 1), endless(700, 1), false},
		} {
			if is := elem.Less(x.a, x.b); is != x.want {
				t.Errorf("Less of strange elements: %v", is)
			}
		}
		for p := 1; p < 30; p++ {
			a, b := endless(p, 1), endless(p+1, 1)
			if elem.Less(a, b) && elem.Less(b, a) {
				t.Errorf("of two elements without end each one comes before the other: %d", p)
			}
		}
	}()
	select {
	case <-done:
	case <-time.After(5 * time.Minute):
		t.Fatal("Less does not answer")
	}
}

// P4.8: where lists of kids lie does not matter: of elements that have the same ones, or longer and shorter parts of one list, Less is what the definition says.
func TestKidsInOneMemory(t *testing.T) {
	list := []api.Elem{number(1), number(2)}
	var kids []api.Elem
	for n := range 3 {
		x := api.Elem{Kind: api.ElemPair, Kids: list[:n]}
		kids = append(kids, x, copied(x))
	}
	kids = append(kids, pairOf(number(1), number(3)), pairOf(number(0)))
	var all []api.Elem
	for _, x := range kids {
		for _, y := range kids {
			all = append(all, pairOf(x, y), pairOf(x, y, x))
		}
	}
	for _, a := range all {
		for _, b := range all {
			if is := elem.Less(a, b); is != (modelCompare(a, b) < 0) {
				t.Errorf("Less of %v, %v: %v", a, b, is)
			}
		}
	}
}

// P4.1: Check, and so all functions with a lattice, answer of elements with levels without end.
func TestEndlessElements(t *testing.T) {
	for _, shape := range shapeTexts {
		l := lattice(shape)
		for _, e := range []api.Elem{endless(1, 1), endless(3, 1), twins(100, 1), tower(100000, 1)} {
			for i, err := range errorsOf(t, l, e, e, "", nil)[:10] {
				if err != api.ErrArg {
					t.Errorf("%s: the function %d of an element that is none: %v", shape, i, err)
				}
			}
		}
	}
}
