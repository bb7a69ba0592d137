package elem_test

import (
	"math/rand"
	"slices"
	"strconv"
	"testing"

	"dripstone/api"
	"dripstone/elem"
	"dripstone/order"
)

// tableTexts are the tables that the lattices of these tests have.
var tableTexts = []string{
	"lattice l { a: b, c; b: d; c: d; d! }",
	"lattice c { none: low; low: mid; mid: high; high! }",
	"lattice n { o: a, c; a: b; b: t; c: t; t }",
	"lattice m { o: a, b, c; a: t; b: t; c: t; t }",
	"lattice one { clash }",
	"lattice q { z: x, y; t!; x: v, w; y: w; v: t; w: t }",
}

// shapeTexts are shapes of all kinds, in one another.
var shapeTexts = []string{
	"flag", "max", "set", "once", "l", "c", "n", "m", "one", "q",
	"map(flag)", "map(max)", "map(set)", "map(once)", "map(l)", "map(one)", "map(q)",
	"pair(flag, max)", "pair(l, l)", "pair(once, set)", "pair(q, c)", "pair(one, one)",
	"map(pair(flag, l))", "pair(map(once), map(set))", "map(map(once))", "pair(pair(flag, n), pair(once, flag))", "map(map(set))",
	"pair(map(pair(flag, max)), c)", "map(map(map(l)))", "map(map(map(set)))", "pair(pair(pair(flag, once), set), map(map(c)))", "map(pair(map(max), pair(set, l)))",
}

// right lets a call's result through if there is no error.
func right[T any](x T, e api.Errno) T {
	if e != api.OK {
		panic("an error: " + strconv.Itoa(int(e)))
	}
	return x
}

func tables() []api.Table {
	var l []api.Table
	for _, s := range tableTexts {
		l = append(l, right(order.Parse(s)))
	}
	return l
}

// lattice returns the lattice of a shape, with the tables that it names, and another one.
func lattice(shape string) api.Lattice {
	l := api.Lattice{Shape: right(order.ParseShape(shape))}
	for i, t := range tables() {
		if i == 2 || names(l.Shape, t.Name) {
			l.Tables = append(l.Tables, t)
		}
	}
	return l
}

// names tells whether a shape, or a shape in it, names a table.
func names(s api.Shape, name string) bool {
	return s.Name == name || slices.ContainsFunc(s.Kids, func(kid api.Shape) bool { return names(kid, name) })
}

func number(n int) api.Elem { return api.Elem{Kind: api.ElemInt, N: n} }

func name(n int) api.Elem { return api.Elem{Kind: api.ElemName, N: n} }

func setOf(keys ...int) api.Elem { return api.Elem{Kind: api.ElemSet, Keys: keys} }

func pairOf(kids ...api.Elem) api.Elem { return api.Elem{Kind: api.ElemPair, Kids: kids} }

// mapOf returns a map in which some keys have elements, one by one.
func mapOf(keys []int, kids ...api.Elem) api.Elem {
	return api.Elem{Kind: api.ElemMap, Keys: keys, Kids: kids}
}

var (
	none  = api.Elem{}
	on    = api.Elem{Kind: api.ElemOn}
	clash = api.Elem{Kind: api.ElemClash}
)

// upTo returns the integers from one up to, but not with, another one.
func upTo(from, to int) []int {
	var l []int
	for n := from; n < to; n++ {
		l = append(l, n)
	}
	return l
}

// times returns a list of so many equal elements.
func times(n int, e api.Elem) []api.Elem {
	var l []api.Elem
	for range n {
		l = append(l, copied(e))
	}
	return l
}

// copied returns an element that shares no memory with another one.
func copied(e api.Elem) api.Elem {
	e.Keys, e.Kids = slices.Clone(e.Keys), slices.Clone(e.Kids)
	for i := range e.Kids {
		e.Kids[i] = copied(e.Kids[i])
	}
	return e
}

// same tells whether two elements are equal.
func same(a, b api.Elem) bool {
	return a.Kind == b.Kind && a.N == b.N && slices.Equal(a.Keys, b.Keys) && slices.EqualFunc(a.Kids, b.Kids, same)
}

// plainElems returns all elements of a shape without keys and kids, of the integers just some.
func plainElems(l api.Lattice, numbers ...int) []api.Elem {
	out := []api.Elem{none}
	switch l.Shape.Kind {
	case api.ShapeFlag:
		return append(out, on)
	case api.ShapeNamed:
		for n := 1; n < len(tableOf(l).Elems); n++ {
			out = append(out, name(n))
		}
		return out
	case api.ShapeOnce:
		out = append(out, clash)
	}
	for _, n := range numbers {
		out = append(out, number(n))
	}
	return out
}

// tableOf returns the table that a shape names.
func tableOf(l api.Lattice) api.Table {
	for _, t := range l.Tables {
		if t.Name == l.Shape.Name {
			return t
		}
	}
	panic("no table " + l.Shape.Name)
}

// kidOf returns the lattice of a kid of a shape.
func kidOf(l api.Lattice, i int) api.Lattice {
	return api.Lattice{Tables: l.Tables, Shape: l.Shape.Kids[i]}
}

// allElems returns all elements of a lattice with no other keys than some, and no other integers than two.
func allElems(l api.Lattice, keys ...int) []api.Elem {
	switch l.Shape.Kind {
	case api.ShapeSet:
		out := []api.Elem{none}
		for bits := 1; bits < 1<<len(keys); bits++ {
			e := setOf()
			for i, key := range keys {
				if bits>>i&1 == 1 {
					e.Keys = append(e.Keys, key)
				}
			}
			out = append(out, e)
		}
		return out
	case api.ShapeMap:
		out := []api.Elem{mapOf(nil)}
		kids := allElems(kidOf(l, 0), keys...)
		for _, key := range keys {
			for _, e := range out[:len(out):len(out)] {
				for _, kid := range kids[1:] {
					out = append(out, mapOf(append(slices.Clone(e.Keys), key), append(slices.Clone(e.Kids), kid)...))
				}
			}
		}
		out[0] = none
		return out
	case api.ShapePair:
		var out []api.Elem
		for _, a := range allElems(kidOf(l, 0), keys...) {
			for _, b := range allElems(kidOf(l, 1), keys...) {
				out = append(out, pairOf(a, b))
			}
		}
		out[0] = none
		return out
	}
	return plainElems(l, -7, 12)
}

// someElem returns any element of a lattice, with at most so many keys, and about half as many in each kid.
func someElem(r *rand.Rand, l api.Lattice, most int) api.Elem {
	if r.Intn(6) == 0 || !hasRise(l) {
		return none
	}
	switch l.Shape.Kind {
	case api.ShapeSet:
		return setOf(someKeys(r, most)...)
	case api.ShapeMap:
		e := mapOf(someKeys(r, most))
		for range e.Keys {
			e.Kids = append(e.Kids, someRise(r, kidOf(l, 0), (most+1)/2))
		}
		return e
	case api.ShapePair:
		a, b := someElem(r, kidOf(l, 0), most), someElem(r, kidOf(l, 1), most)
		if a.Kind == api.ElemNone {
			b = someRise(r, kidOf(l, 1), most)
		}
		if a.Kind == api.ElemNone && b.Kind == api.ElemNone {
			return none
		}
		return pairOf(a, b)
	}
	all := plainElems(l, -api.MaxNumber, -1, 0, 5, api.MaxNumber, r.Intn(2000000001)-1000000000)
	return all[r.Intn(len(all))]
}

// someRise returns any element of a lattice but the bottom, if it has one.
func someRise(r *rand.Rand, l api.Lattice, most int) api.Elem {
	for hasRise(l) {
		if e := someElem(r, l, most); e.Kind != api.ElemNone {
			return e
		}
	}
	return none
}

// hasRise tells whether a lattice has an element but the bottom.
func hasRise(l api.Lattice) bool {
	switch l.Shape.Kind {
	case api.ShapeNamed:
		return len(tableOf(l).Elems) > 1
	case api.ShapeMap:
		return hasRise(kidOf(l, 0))
	case api.ShapePair:
		return hasRise(kidOf(l, 0)) || hasRise(kidOf(l, 1))
	}
	return true
}

// someKeys returns from 1 to some keys, often small ones.
func someKeys(r *rand.Rand, most int) []int {
	var l []int
	for range 1 + r.Intn(most) {
		key := r.Intn(3*most) - most
		if r.Intn(4) == 0 {
			key = r.Intn(2*api.MaxNumber+1) - api.MaxNumber
		}
		l = append(l, key)
	}
	slices.Sort(l)
	return slices.Compact(l)
}

// elemsOf returns elements of a lattice: all small ones, if these are not too many, otherwise so many of any size.
func elemsOf(r *rand.Rand, l api.Lattice, most int) []api.Elem {
	if countSmall(l) <= most {
		return allElems(l, -1, 7)
	}
	out := []api.Elem{none}
	for len(out) < most {
		out = append(out, someElem(r, l, 3))
	}
	return out
}

// countSmall returns how many elements allElems returns with two keys, or a number that is too large.
func countSmall(l api.Lattice) int {
	switch l.Shape.Kind {
	case api.ShapeSet:
		return 4
	case api.ShapeMap:
		n := min(countSmall(kidOf(l, 0)), 10000)
		return n * n
	case api.ShapePair:
		return min(countSmall(kidOf(l, 0)), 10000) * min(countSmall(kidOf(l, 1)), 10000)
	}
	return len(plainElems(l, -7, 12))
}

// text returns the text of an element, or what is wrong with it.
func text(l api.Lattice, e api.Elem) string {
	s, err := elem.Text(l, e)
	if err != api.OK {
		return "error " + strconv.Itoa(int(err))
	}
	return s
}

// parsed returns the element with a text.
func parsed(t *testing.T, l api.Lattice, s string) api.Elem {
	t.Helper()
	e, err := elem.Parse(l, s)
	if err != api.OK {
		t.Fatalf("Parse of %q: %v", s, err)
	}
	return e
}
