package elem_test

import (
	"math/rand"
	"slices"
	"testing"

	"dripstone/api"
	"dripstone/elem"
)

// P4.2 to P4.4, P4.9, P4.15: of all pairs of small elements, and of many greater ones, joins and what is said by them are what the definitions say.
func TestPairs(t *testing.T) {
	r := rand.New(rand.NewSource(2))
	for _, shape := range shapeTexts {
		l := lattice(shape)
		elems := elemsOf(r, l, 70)
		for range 5 {
			elems = append(elems, someElem(r, l, 25))
		}
		for _, a := range elems {
			for _, b := range elems {
				tryPair(t, l, a, b)
			}
		}
	}
}

// tryPair calls all functions with two elements.
func tryPair(t *testing.T, l api.Lattice, a, b api.Elem) {
	t.Helper()
	want := modelJoin(l, a, b)
	j, err := elem.Join(l, a, b)
	if over := isOver(want); over != (err == api.ErrLimit) || over && !same(j, none) || !over && (!same(j, want) || err != api.OK || elem.Check(l, j) != api.OK) {
		t.Errorf("Join of %v, %v: %v, %v; not %v", a, b, j, err, want)
	}
	all, err2 := elem.JoinAll(l, []api.Elem{a, b})
	if !same(all, j) || err2 != err {
		t.Errorf("JoinAll of %v, %v: %v, %v; not %v, %v", a, b, all, err2, j, err)
	}
	if is, err := elem.Below(l, a, b); is != same(want, b) || err != api.OK {
		t.Errorf("Below of %v, %v: %v, %v", a, b, is, err)
	}
	if is, err := elem.Excludes(l, a, b); is != modelWrong(l, want) || err != api.OK {
		t.Errorf("Excludes of %v, %v: %v, %v", a, b, is, err)
	}
	if is, err := elem.IsWrong(l, a); is != modelWrong(l, a) || err != api.OK {
		t.Errorf("IsWrong of %v: %v, %v", a, is, err)
	}
}

// P4.2 to P4.4: the chapter's examples, and others whose results are written here.
func TestJoinsThatAreKnown(t *testing.T) {
	for _, x := range []struct {
		shape, a, b, join string
		below, excludes   bool
	}{
		{"map(set)", "[1: {2}]", "[1: {3}, 4: {5}]", "[1: {2, 3}, 4: {5}]", false, false},
		{"once", "1", "2", "clash", false, true},
		{"once", "-1", "1", "clash", false, true},
		{"once", "0", "none", "0", false, false},
		{"once", "clash", "0", "clash", false, true},
		{"once", "clash", "clash", "clash", true, true},
		{"l", "#b", "#c", "#d", false, true},
		{"l", "#b", "#b", "#b", true, false},
		{"c", "#low", "#high", "#high", true, true},
		{"n", "#a", "#b", "#b", true, false},
		{"n", "#a", "#c", "#t", false, false},
		{"q", "#x", "#y", "#w", false, false},
		{"q", "#v", "#y", "#t", false, true},
		{"pair(flag, max)", "(on, none)", "(on, -7)", "(on, -7)", true, false},
		{"pair(flag, max)", "(on, none)", "(none, -7)", "(on, -7)", false, false},
		{"max", "-7", "-8", "-7", false, false},
		{"max", "-8", "-7", "-7", true, false},
		{"max", "-1000000000", "none", "-1000000000", false, false},
		{"max", "none", "none", "none", true, false},
		{"map(once)", "[1: 2]", "[2: 3]", "[1: 2, 2: 3]", false, false},
		{"map(once)", "[1: 2, 2: 4]", "[2: 3]", "[1: 2, 2: clash]", false, true},
		{"map(l)", "[1: #b]", "[1: #d, 2: #c]", "[1: #d, 2: #c]", true, true},
		{"pair(map(once), map(set))", "([1: 2], none)", "([1: 3], [1: {2}])", "([1: clash], [1: {2}])", false, true},
		{"set", "{5}", "{1, 9}", "{1, 5, 9}", false, false},
		{"set", "{1, 9}", "{1, 5, 9}", "{1, 5, 9}", true, false},
	} {
		l := lattice(x.shape)
		a, b := parsed(t, l, x.a), parsed(t, l, x.b)
		j := text(l, right(elem.Join(l, a, b)))
		below, excludes := right(elem.Below(l, a, b)), right(elem.Excludes(l, a, b))
		if j != x.join || below != x.below || excludes != x.excludes {
			t.Errorf("%s: %s and %s: %s, %v, %v", x.shape, x.a, x.b, j, below, excludes)
		}
	}
	if !right(elem.IsWrong(lattice("l"), name(3))) || right(elem.IsWrong(lattice("l"), name(2))) {
		t.Errorf("IsWrong of #d or #c")
	}
}

// P4.2 to P4.4: as many keys as there may be, and one more; in a kid, too. Below and Excludes do not mind.
func TestTooManyKeys(t *testing.T) {
	all := upTo(0, 40)
	inMap := func(keys []int) api.Elem { return mapOf(keys, times(len(keys), on)...) }
	inKid := func(keys []int) api.Elem { return mapOf([]int{3}, setOf(keys...)) }
	inPair := func(keys []int) api.Elem { return pairOf(mapOf(keys, times(len(keys), number(len(keys)))...), none) }
	for _, x := range []struct {
		shape string
		of    func([]int) api.Elem
	}{{"set", func(keys []int) api.Elem { return setOf(keys...) }}, {"map(flag)", inMap}, {"map(set)", inKid}, {"pair(map(once), map(set))", inPair}} {
		l := lattice(x.shape)
		full, half, end, more := x.of(all), x.of(all[:20]), x.of(all[20:]), x.of(upTo(40, 41))
		if j, err := elem.Join(l, half, end); err != api.OK || len(leaves(j)) != 40 {
			t.Errorf("%s: Join of 40 keys: %v, %v", x.shape, j, err)
		}
		if j, err := elem.Join(l, full, full); err != api.OK || !same(j, full) {
			t.Errorf("%s: Join of 40 keys and the same: %v, %v", x.shape, j, err)
		}
		for _, pair := range [][2]api.Elem{{full, more}, {more, full}, {full, x.of(upTo(39, 79))}, {x.of(upTo(-30, 0)), x.of(upTo(0, 11))}} {
			if j, err := elem.Join(l, pair[0], pair[1]); err != api.ErrLimit || !same(j, none) {
				t.Errorf("%s: Join of more than 40 keys: %v, %v", x.shape, j, err)
			}
			is, err := elem.Below(l, pair[0], pair[1])
			wrong, err2 := elem.Excludes(l, pair[0], pair[1])
			if is || wrong != modelWrong(l, modelJoin(l, pair[0], pair[1])) || err != api.OK || err2 != api.OK {
				t.Errorf("%s: of more than 40 keys Below: %v, %v, Excludes: %v, %v", x.shape, is, err, wrong, err2)
			}
		}
		for _, list := range [][]api.Elem{{full, more}, {more, full, full}, {half, end, none, more}, {none, full, more, none}, {half, more, half, end}} {
			if j, err := elem.JoinAll(l, list); err != api.ErrLimit || !same(j, none) {
				t.Errorf("%s: JoinAll of more than 40 keys: %v, %v", x.shape, j, err)
			}
			if j, err := elem.JoinAll(l, append(list, clash, api.Elem{Kind: 9})); err != api.ErrArg || !same(j, none) {
				t.Errorf("%s: JoinAll of no elements: %v, %v", x.shape, j, err)
			}
		}
		if j, err := elem.JoinAll(l, []api.Elem{half, half, end, half, full, end}); err != api.OK || len(leaves(j)) != 40 {
			t.Errorf("%s: JoinAll of 40 keys: %v, %v", x.shape, j, err)
		}
	}
	l := lattice("map(once)")
	ones, twos := mapOf(all, times(40, number(1))...), mapOf(upTo(39, 79), times(40, number(2))...)
	if is, err := elem.Excludes(l, ones, twos); !is || err != api.OK {
		t.Errorf("Excludes of 79 keys, of which one has two values: %v, %v", is, err)
	}
	if _, err := elem.Join(l, ones, twos); err != api.ErrLimit {
		t.Errorf("Join of 79 keys, of which one has two values: %v", err)
	}
}

// P4.2, P4.9, P4.15: JoinAll in any order, with elements that come again, has what joins one after the other have.
func TestJoinAll(t *testing.T) {
	r := rand.New(rand.NewSource(3))
	limits := 0
	for _, shape := range shapeTexts {
		l := lattice(shape)
		for range 60 {
			var list []api.Elem
			for range r.Intn(9) {
				list = append(list, someElem(r, l, 1+r.Intn(30)))
			}
			want, limit := none, api.OK
			for _, e := range list {
				if limit == api.OK {
					want, limit = elem.Join(l, want, e)
				}
			}
			if limit != api.OK {
				limits++
			}
			if !same(modelJoin(l, list...), want) && limit == api.OK {
				t.Errorf("%s: joins of %v: %v", shape, list, want)
			}
			more := slices.Clone(list)
			for range r.Intn(4) {
				if len(list) > 0 {
					more = append(more, list[r.Intn(len(list))], none)
				}
			}
			r.Shuffle(len(more), func(i, j int) { more[i], more[j] = more[j], more[i] })
			for _, x := range [][]api.Elem{list, more} {
				if j, err := elem.JoinAll(l, x); !same(j, want) || err != limit || err == api.OK && elem.Check(l, j) != api.OK {
					t.Errorf("%s: JoinAll of %v: %v, %v; not %v, %v", shape, x, j, err, want, limit)
				}
			}
		}
	}
	if limits < 20 {
		t.Errorf("only %d joins had too many keys", limits)
	}
	for _, list := range [][]api.Elem{nil, {}, {none}, {none, none}} {
		if j, err := elem.JoinAll(lattice("set"), list); !same(j, none) || err != api.OK {
			t.Errorf("JoinAll of %v: %v, %v", list, j, err)
		}
	}
}

// P4.9, P4.10: what is so of any three elements.
func TestThrees(t *testing.T) {
	r := rand.New(rand.NewSource(4))
	for _, shape := range shapeTexts {
		l := lattice(shape)
		elems := elemsOf(r, l, 16)
		join := func(a, b api.Elem) api.Elem { return right(elem.Join(l, a, b)) }
		below := func(a, b api.Elem) bool { return right(elem.Below(l, a, b)) }
		for _, a := range elems {
			for _, b := range elems {
				j := join(a, b)
				if !same(j, join(b, a)) || !below(a, j) || !below(b, j) || !same(join(j, a), j) || !below(a, a) || !below(none, a) {
					t.Errorf("%s: the join of %v and %v is %v", shape, a, b, j)
				}
				if right(elem.IsWrong(l, a)) && below(a, b) && !right(elem.IsWrong(l, b)) {
					t.Errorf("%s: %v is wrong, but %v, above it, is not", shape, a, b)
				}
				for _, c := range elems {
					if !same(join(j, c), join(a, join(b, c))) || below(a, c) && below(b, c) && !below(j, c) || below(a, b) && below(b, c) && !below(a, c) {
						t.Errorf("%s: joins of %v, %v and %v", shape, a, b, c)
					}
					if right(elem.Excludes(l, a, b)) && below(b, c) && !right(elem.Excludes(l, a, c)) {
						t.Errorf("%s: %v excludes %v, but not %v, above it", shape, a, b, c)
					}
				}
			}
		}
	}
}
