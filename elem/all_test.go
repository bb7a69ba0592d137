package elem_test

import (
	"fmt"
	"math/rand"
	"slices"
	"strings"
	"testing"

	"dripstone/api"
	"dripstone/elem"
)

// answers calls all functions, and returns what they answer.
func answers(l api.Lattice, a, b api.Elem, list []api.Elem, s string, bytes []byte) string {
	var out strings.Builder
	say := func(l ...any) { fmt.Fprintf(&out, "%v\n", l) }
	say(elem.Check(l, a))
	x, e := elem.Join(l, a, b)
	say(x, e)
	x, e = elem.JoinAll(l, list)
	say(x, e)
	is, e := elem.Below(l, a, b)
	say(is, e)
	is, e = elem.IsWrong(l, a)
	say(is, e)
	is, e = elem.Excludes(l, a, b)
	say(is, e)
	pieces, e := elem.Pieces(l, b)
	say(pieces, e)
	x, e = elem.Delta(l, a, b)
	say(x, e)
	text, e := elem.Text(l, a)
	say(text, e)
	x, e = elem.Parse(l, s)
	say(x, e)
	packed, e := elem.Bytes(l, b)
	say(packed, e)
	x, e = elem.Read(l, bytes)
	say(x, e)
	say(elem.Less(a, b))
	return out.String()
}

// P1, P2: no call panics, whatever the arguments; equal ones get equal results.
func TestEveryCallAnswers(t *testing.T) {
	r := rand.New(rand.NewSource(10))
	all := wrongLattices(t)
	var elems []api.Elem
	for _, shape := range shapeTexts {
		l := lattice(shape)
		all = append(all, l)
		x := someElem(r, l, 4)
		elems = append(elems, x, someElem(r, l, 4), anyElem(r, 3))
		near := spoilt(l, x)
		for range 5 {
			elems = append(elems, near[r.Intn(len(near))])
		}
	}
	texts := []string{"", "none", "\x00", "\xff", "{1}", "[1: {2}]", strings.Repeat("(", 2500), strings.Repeat("[1: ", 600), strings.Repeat("#", 2501)}
	for range 4000 {
		l := all[r.Intn(len(all))]
		a, b := elems[r.Intn(len(elems))], elems[r.Intn(len(elems))]
		if r.Intn(2) == 0 && l.Shape.Kind > 0 && elem.Check(l, none) == api.OK {
			b = someElem(r, l, 4)
		}
		var list []api.Elem
		for range r.Intn(4) {
			list = append(list, elems[r.Intn(len(elems))], a, b)
		}
		s := texts[r.Intn(len(texts))]
		bytes := make([]byte, r.Intn(30))
		r.Read(bytes)
		if answers(l, a, b, list, s, bytes) != answers(l, copied(a), copied(b), slices.Clone(list), s, slices.Clone(bytes)) {
			t.Errorf("not the same twice: %v, %v, %v, %q, %v", a, b, list, s, bytes)
		}
	}
}

// roomy returns an element with spare room behind all its lists, in which there is something; and where there is something else in the room a later call finds it.
func roomy(e api.Elem) api.Elem {
	keys := append(slices.Clone(e.Keys), 771, 772)
	kids := make([]api.Elem, 0, len(e.Kids)+2)
	for _, kid := range e.Kids {
		kids = append(kids, roomy(kid))
	}
	kids = append(kids, api.Elem{Kind: 77}, api.Elem{Kind: 78})
	e.Keys, e.Kids = keys[:len(e.Keys)], kids[:len(e.Kids)]
	return e
}

// hasRoom tells whether the spare room of an element is as roomy made it.
func hasRoom(e api.Elem) bool {
	n, m := len(e.Keys), len(e.Kids)
	if !slices.Equal(e.Keys[n:n+2], []int{771, 772}) || e.Kids[m : m+2][0].Kind != 77 || e.Kids[m : m+2][1].Kind != 78 {
		return false
	}
	return !slices.ContainsFunc(e.Kids, func(kid api.Elem) bool { return !hasRoom(kid) })
}

// spoilMemory overwrites all lists of an element, with all their spare room.
func spoilMemory(e api.Elem) {
	for _, kid := range e.Kids {
		spoilMemory(kid)
	}
	for i := range e.Keys[:cap(e.Keys)] {
		e.Keys[:cap(e.Keys)][i] = -5
	}
	for i := range e.Kids[:cap(e.Kids)] {
		e.Kids[:cap(e.Kids)][i] = api.Elem{Kind: 99}
	}
}

// apart tells whether some elements share no memory: whether each stays as it is while those before it are overwritten, and so do the kids of each.
func apart(elems ...api.Elem) bool {
	keep := make([]api.Elem, len(elems))
	for i, e := range elems {
		keep[i] = copied(e)
	}
	for i, e := range elems {
		if !same(e, keep[i]) {
			return false
		}
		kids := slices.Clone(e.Kids)
		if !apart(kids...) {
			return false
		}
		spoilMemory(e)
	}
	return true
}

// P2, R4: arguments stay as they are, with their spare room; results are new memory, and no two lists of one are the same memory.
func TestMemory(t *testing.T) {
	r := rand.New(rand.NewSource(11))
	for _, shape := range shapeTexts {
		l := lattice(shape)
		for range 30 {
			a, b := roomy(someElem(r, l, 5)), roomy(someElem(r, l, 5))
			switch r.Intn(5) {
			case 0:
				b = a
			case 1:
				a = roomy(none)
			case 2:
				b = roomy(none)
			}
			keepA, keepB := copied(a), copied(b)
			list := []api.Elem{a, b, {Kind: 66}}[:2]
			calls := []func() []api.Elem{
				func() []api.Elem { return []api.Elem{right(elem.Join(l, a, b))} },
				func() []api.Elem { return []api.Elem{right(elem.JoinAll(l, list))} },
				func() []api.Elem { return []api.Elem{right(elem.JoinAll(l, list[:1]))} },
				func() []api.Elem { return right(elem.Pieces(l, a)) },
				func() []api.Elem { return []api.Elem{right(elem.Delta(l, a, b))} },
				func() []api.Elem { return []api.Elem{right(elem.Delta(l, none, b))} },
				func() []api.Elem {
					right(elem.Bytes(l, a))
					elem.Text(l, a)
					right(elem.Below(l, a, b))
					right(elem.Excludes(l, a, b))
					elem.Less(a, b)
					return nil
				},
			}
			for i, call := range calls {
				if !apart(call()...) {
					t.Errorf("%s: lists of the result of the call %d share memory, of %v, %v", shape, i, keepA, keepB)
				}
				if !same(a, keepA) || !same(b, keepB) || !hasRoom(a) || !hasRoom(b) || list[:3][2].Kind != 66 || !same(list[0], a) || !same(list[1], b) {
					t.Fatalf("%s: the call %d has changed its arguments %v, %v", shape, i, keepA, keepB)
				}
			}
		}
	}
}

// R4: what is read shares no memory with what was read, and what is written none with what was written.
func TestReadMemory(t *testing.T) {
	l := lattice("map(set)")
	e := mapOf([]int{1, 2}, setOf(3), setOf(3))
	whole := append(modelBytes(e), 55, 56)
	for range 2 {
		s := modelText(l, e)
		if x := right(elem.Parse(l, s)); !same(x, e) || !apart(x) {
			t.Errorf("Parse of %q: %v", s, x)
		}
		b := right(elem.Bytes(l, e))
		x := right(elem.Read(l, whole[:len(whole)-2]))
		if !same(x, e) || !apart(x) || !slices.Equal(whole, append(b, 55, 56)) {
			t.Errorf("Read of %v: %v", whole, x)
		}
		clear(b[:cap(b)])
	}
	twice := setOf(3)
	shared := mapOf([]int{1, 2}, twice, twice)
	if x := right(elem.Join(l, shared, shared)); !same(x, shared) || !apart(x) {
		t.Errorf("Join of kids that share memory: %v", x)
	}
	if x := right(elem.JoinAll(l, []api.Elem{shared})); !same(x, e) || !apart(x) {
		t.Errorf("JoinAll of kids that share memory: %v", x)
	}
	if x := right(elem.Delta(l, none, shared)); !same(x, e) || !apart(x) {
		t.Errorf("Delta of kids that share memory: %v", x)
	}
	if pieces := right(elem.Pieces(l, shared)); len(pieces) != 2 || !apart(pieces...) {
		t.Errorf("Pieces of kids that share memory: %v", pieces)
	}
	if !same(shared, e) {
		t.Errorf("kids that share memory have changed: %v", shared)
	}
}

// R3: nil and empty lists are the same.
func TestNilAndEmpty(t *testing.T) {
	empty := func(e api.Elem) api.Elem {
		e.Keys, e.Kids = append([]int{}, e.Keys...), append([]api.Elem{}, e.Kids...)
		return e
	}
	r := rand.New(rand.NewSource(12))
	for _, shape := range shapeTexts {
		l := lattice(shape)
		for range 10 {
			a, b := someElem(r, l, 3), someElem(r, l, 3)
			x, y := empty(a), empty(b)
			if len(a.Kids) > 0 {
				x.Kids[0] = empty(a.Kids[0])
			}
			list := []api.Elem{x, y, empty(none)}
			if answers(l, a, b, list, "", nil) != answers(l, x, y, list, "", []byte{}) || elem.Less(a, x) || elem.Less(x, a) {
				t.Errorf("%s: nil is not as empty: %v, %v", shape, a, b)
			}
		}
	}
}
