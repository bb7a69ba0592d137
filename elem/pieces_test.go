package elem_test

import (
	"math/rand"
	"slices"
	"testing"

	"dripstone/api"
	"dripstone/elem"
)

// P4.5: pieces and deltas whose texts are written here, those of the chapter among them.
func TestPiecesThatAreKnown(t *testing.T) {
	for _, x := range []struct {
		shape, e string
		want     []string
	}{
		{"map(set)", "[1: {3}, 4: {5}]", []string{"[1: {3}]", "[4: {5}]"}},
		{"l", "#d", []string{"#b", "#c"}},
		{"l", "#b", []string{"#b"}},
		{"c", "#high", []string{"#high"}},
		{"n", "#t", []string{"#b", "#c"}},
		{"n", "#b", []string{"#b"}},
		{"m", "#t", []string{"#a", "#b", "#c"}},
		{"q", "#t", []string{"#y", "#v"}},
		{"q", "#w", []string{"#x", "#y"}},
		{"flag", "none", nil},
		{"flag", "on", []string{"on"}},
		{"max", "-3", []string{"-3"}},
		{"max", "0", []string{"0"}},
		{"once", "clash", []string{"clash"}},
		{"once", "0", []string{"0"}},
		{"set", "{-5, 0, 7}", []string{"{-5}", "{0}", "{7}"}},
		{"pair(l, l)", "(#d, #d)", []string{"(#b, none)", "(#c, none)", "(none, #b)", "(none, #c)"}},
		{"pair(flag, max)", "(none, 4)", []string{"(none, 4)"}},
		{"map(pair(flag, l))", "[-1: (on, #d), 3: (none, #c)]", []string{"[-1: (on, none)]", "[-1: (none, #b)]", "[-1: (none, #c)]", "[3: (none, #c)]"}},
		{"map(map(set))", "[1: [2: {3, 4}, 5: {6}], 7: [1: {1}]]", []string{"[1: [2: {3}]]", "[1: [2: {4}]]", "[1: [5: {6}]]", "[7: [1: {1}]]"}},
	} {
		l := lattice(x.shape)
		pieces, err := elem.Pieces(l, parsed(t, l, x.e))
		var got []string
		for _, p := range pieces {
			got = append(got, text(l, p))
		}
		if !slices.Equal(got, x.want) || err != api.OK {
			t.Errorf("%s: Pieces of %s: %q, %v", x.shape, x.e, got, err)
		}
	}
	for _, x := range []struct{ shape, a, b, want string }{
		{"map(set)", "[1: {3}, 4: {5}]", "[1: {2, 3}, 4: {5}]", "[1: {2}]"},
		{"map(set)", "[1: {2, 3}, 4: {5}]", "[1: {3}, 4: {5}]", "none"},
		{"l", "#c", "#d", "#b"},
		{"l", "#d", "#c", "none"},
		{"l", "none", "#d", "#d"},
		{"n", "#a", "#t", "#t"},
		{"n", "#b", "#t", "#c"},
		{"q", "#x", "#t", "#t"},
		{"q", "#w", "#t", "#v"},
		{"m", "#a", "#t", "#t"},
		{"once", "3", "3", "none"},
		{"once", "3", "4", "4"},
		{"once", "3", "clash", "clash"},
		{"once", "clash", "3", "none"},
		{"max", "3", "4", "4"},
		{"max", "4", "4", "none"},
		{"set", "{1, 3}", "{1, 2, 3, 4}", "{2, 4}"},
		{"pair(flag, max)", "(on, none)", "(on, -7)", "(none, -7)"},
		{"pair(flag, max)", "(none, -7)", "(on, -7)", "(on, none)"},
		{"pair(flag, max)", "(on, -7)", "(on, -7)", "none"},
		{"map(pair(flag, l))", "[1: (on, #b)]", "[1: (on, #d), 2: (on, #b)]", "[1: (none, #c), 2: (on, #b)]"},
	} {
		l := lattice(x.shape)
		if d, err := elem.Delta(l, parsed(t, l, x.a), parsed(t, l, x.b)); text(l, d) != x.want || err != api.OK {
			t.Errorf("%s: Delta of %s, %s: %s, %v", x.shape, x.a, x.b, text(l, d), err)
		}
	}
}

// P4.5, P4.11, P4.15: pieces are what the definition says, and what is so of them.
func TestPieces(t *testing.T) {
	r := rand.New(rand.NewSource(5))
	for _, shape := range shapeTexts {
		l := lattice(shape)
		elems := elemsOf(r, l, 70)
		for range 10 {
			elems = append(elems, someElem(r, l, 12))
		}
		for _, e := range elems {
			pieces, err := elem.Pieces(l, e)
			if !slices.EqualFunc(pieces, modelPieces(l, e), same) || err != api.OK {
				t.Fatalf("%s: Pieces of %v: %v, %v", shape, e, pieces, err)
			}
			if all := right(elem.JoinAll(l, pieces)); !same(all, e) {
				t.Errorf("%s: the join of the pieces of %v: %v", shape, e, all)
			}
			for _, p := range pieces {
				if own := right(elem.Pieces(l, p)); !slices.EqualFunc(own, []api.Elem{p}, same) {
					t.Errorf("%s: the pieces of the piece %v: %v", shape, p, own)
				}
			}
			b := elems[r.Intn(len(elems))]
			under := !slices.ContainsFunc(pieces, func(p api.Elem) bool { return !right(elem.Below(l, p, b)) })
			if under != right(elem.Below(l, e, b)) {
				t.Errorf("%s: %v is below %v, or its pieces are: %v", shape, e, b, under)
			}
		}
	}
}

// P4.5, P4.12, P4.15: deltas are what the definition says, and what is so of them.
func TestDeltas(t *testing.T) {
	r := rand.New(rand.NewSource(6))
	for _, shape := range shapeTexts {
		l := lattice(shape)
		elems := elemsOf(r, l, 40)
		for range 5 {
			elems = append(elems, someElem(r, l, 12))
		}
		for _, a := range elems {
			for _, b := range elems {
				d, err := elem.Delta(l, a, b)
				if !same(d, modelDelta(l, a, b)) || err != api.OK || elem.Check(l, d) != api.OK {
					t.Fatalf("%s: Delta of %v, %v: %v, %v; not %v", shape, a, b, d, err, modelDelta(l, a, b))
				}
				if !same(modelJoin(l, a, d), modelJoin(l, a, b)) || !right(elem.Below(l, d, b)) || same(d, none) != right(elem.Below(l, b, a)) {
					t.Errorf("%s: Delta of %v, %v: %v", shape, a, b, d)
				}
			}
			if d := right(elem.Delta(l, none, a)); !same(d, a) {
				t.Errorf("%s: Delta of the bottom and %v: %v", shape, a, d)
			}
		}
	}
}

// P4.5: a Delta of elements whose join has too many keys has no error.
func TestDeltaOfManyKeys(t *testing.T) {
	l := lattice("map(set)")
	whole := func(from int) api.Elem {
		return mapOf(upTo(from, from+40), times(40, setOf(upTo(from, from+40)...))...)
	}
	a, b := whole(0), whole(30)
	d, err := elem.Delta(l, a, b)
	want := copied(b)
	for i := range 10 {
		want.Kids[i] = setOf(upTo(40, 70)...)
	}
	if !same(d, want) || err != api.OK {
		t.Errorf("Delta of many keys: %v, %v", d, err)
	}
	if pieces, err := elem.Pieces(l, a); len(pieces) != 1600 || err != api.OK || !same(pieces[41], mapOf([]int{1}, setOf(1))) {
		t.Errorf("Pieces of many keys: %d, %v", len(pieces), err)
	}
}
