package order_test

import (
	"math"
	"math/rand"
	"slices"
	"testing"

	"dripstone/api"
	"dripstone/order"
)

// P3.2: what is above, in tables of all sorts.
func TestReachAndBelow(t *testing.T) {
	try := func(x api.Table) {
		f := factsOf(x)
		for a := range x.Elems {
			var want []int
			for b := range x.Elems {
				if f.below(a, b) {
					want = append(want, b)
				}
				if is, e := order.Below(x, a, b); is != f.below(a, b) || e != api.OK {
					t.Errorf("Below of %v, %d, %d: %v, %v", x, a, b, is, e)
				}
			}
			if l, e := order.Reach(x, a); !slices.Equal(l, want) || e != api.OK {
				t.Errorf("Reach of %v, %d: %v, %v; not %v", x, a, l, e, want)
			}
		}
	}
	r := rand.New(rand.NewSource(4))
	for range 3000 {
		try(someTable(r))
	}
	for bits := range 1 << 9 {
		try(fromBits(3, bits, bits&7))
	}
	for _, s := range []string{diamond, chain, pent, three, cycle, bare, "lattice x { a! }", "lattice x { a: a }"} {
		try(read(t, s))
	}
	if l, e := order.Reach(read(t, pent), 1); !slices.Equal(l, []int{1, 2, 4}) || e != api.OK {
		t.Errorf("Reach: %v, %v", l, e)
	}
}

// strange are numbers that are those of no elements of a table with 4.
var strange = []int{math.MinInt, -1000, -64, -1, 4, 5, 11, 12, 16, 63, 64, 65, math.MaxInt}

// P3.2 to P3.4: elements that there are not; what is no lattice comes before.
func TestNoElement(t *testing.T) {
	for _, s := range []string{diamond, "lattice k { a; b: d; c: d; d! }", "lattice x { a: b; b: a; c; d }"} {
		x := read(t, s)
		want := api.ErrFalse
		if s == diamond {
			want = api.ErrNone
		}
		for _, a := range strange {
			l, e := order.Reach(x, a)
			if l != nil || e != api.ErrNone {
				t.Errorf("Reach of %q, %d: %v, %v", s, a, l, e)
			}
			if l, e = order.Parts(x, a); l != nil || e != want {
				t.Errorf("Parts of %q, %d: %v, %v", s, a, l, e)
			}
			for _, pair := range [][2]int{{a, 0}, {a, 3}, {0, a}, {3, a}, {a, a}} {
				if is, e := order.Below(x, pair[0], pair[1]); is || e != api.ErrNone {
					t.Errorf("Below of %q, %v: %v, %v", s, pair, is, e)
				}
				if j, e := order.Join(x, pair[0], pair[1]); j != 0 || e != want {
					t.Errorf("Join of %q, %v: %d, %v", s, pair, j, e)
				}
			}
		}
	}
}

// P3.3 to P3.5: tables that are no lattices.
func TestNoLattice(t *testing.T) {
	for _, s := range []string{"lattice k { a; b: d; c: d; d! }", cycle, bare, "lattice m { a: b, c; b: d, e; c: d, e; d; e }", "lattice p { a: b; b!: c; c }", "lattice x { a! }", "lattice x { a: a }"} {
		x := read(t, s)
		join, e1 := order.Join(x, 0, 0)
		primes, e2 := order.Primes(x)
		parts, e3 := order.Parts(x, 0)
		high, e4 := order.Height(x)
		slim, e5 := order.Slim(x)
		if l := []api.Errno{e1, e2, e3, e4, e5}; slices.ContainsFunc(l, func(e api.Errno) bool { return e != api.ErrFalse }) {
			t.Errorf("%q: %v", s, l)
		}
		if join != 0 || primes != nil || parts != nil || high != 0 || !sameTable(slim, api.Table{}) {
			t.Errorf("%q: %v, %v, %v, %v, %v", s, join, primes, parts, high, slim)
		}
	}
}

// knownLattices yields the small tables that are lattices, and many greater ones.
func knownLattices(t *testing.T) []api.Table {
	var l []api.Table
	for x := range smallTables() {
		if factsOf(x).first().Kind == 0 {
			l = append(l, x)
		}
	}
	for x := range lattices(t, 5, 700) {
		l = append(l, x)
	}
	for n := 1; n <= api.MaxElems; n++ {
		l = append(l, ofSets(rand.New(rand.NewSource(1)), chainOf(n), 0))
	}
	return l
}

// chainOf returns so many sets, each with one point more.
func chainOf(n int) []int {
	var l []int
	for i := range n {
		l = append(l, 1<<i-1)
	}
	return l
}

// P3.3, P3.4: joins, primes, parts and heights are what the definitions say.
func TestLatticesAgain(t *testing.T) {
	for _, x := range knownLattices(t) {
		f := factsOf(x)
		for a := range x.Elems {
			for b := range x.Elems {
				if j, e := order.Join(x, a, b); j != f.join(a, b) || e != api.OK {
					t.Errorf("Join of %v, %d, %d: %d, %v", x, a, b, j, e)
				}
			}
			if l, e := order.Parts(x, a); !slices.Equal(l, f.parts(a)) || e != api.OK {
				t.Errorf("Parts of %v, %d: %v, %v; not %v", x, a, l, e, f.parts(a))
			}
		}
		if l, e := order.Primes(x); !slices.Equal(l, f.primes()) || e != api.OK {
			t.Errorf("Primes of %v: %v, %v; not %v", x, l, e, f.primes())
		}
		if n, e := order.Height(x); n != f.high(0) || e != api.OK {
			t.Errorf("Height of %v: %d, %v; not %d", x, n, e, f.high(0))
		}
	}
}

// P3.3, P3.4: the tables of the chapter, and others whose answers are written here.
func TestSomeLattices(t *testing.T) {
	for _, x := range []struct {
		s             string
		a, b, join    int
		primes, parts []int
		height        int
	}{
		{diamond, 1, 2, 3, []int{1, 2}, []int{1, 2}, 2},
		{diamond, 2, 0, 2, []int{1, 2}, []int{1, 2}, 2},
		{chain, 1, 3, 3, []int{1, 2, 3}, []int{3}, 3},
		{pent, 1, 3, 4, []int{1, 2, 3}, []int{2, 3}, 3},
		{three, 1, 3, 4, []int{1, 2, 3}, []int{1, 2, 3}, 2},
		{"lattice x { a }", 0, 0, 0, nil, nil, 0},
		{"lattice x { a: b; b! }", 0, 1, 1, []int{1}, []int{1}, 1},
		{"lattice x { a: e; b: c; c: d; d; e: b }", 1, 4, 1, []int{1, 2, 3, 4}, []int{2}, 4},
	} {
		u := read(t, x.s)
		last := len(u.Elems) - 1
		if x.height == 4 {
			last = 2
		}
		if j, e := order.Join(u, x.a, x.b); j != x.join || e != api.OK {
			t.Errorf("Join of %q, %d, %d: %d, %v", x.s, x.a, x.b, j, e)
		}
		if l, e := order.Primes(u); !slices.Equal(l, x.primes) || e != api.OK {
			t.Errorf("Primes of %q: %v, %v", x.s, l, e)
		}
		if l, e := order.Parts(u, last); !slices.Equal(l, x.parts) || e != api.OK {
			t.Errorf("Parts of %q, %d: %v, %v", x.s, last, l, e)
		}
		if l, e := order.Parts(u, 0); len(l) != 0 || e != api.OK {
			t.Errorf("Parts of %q, 0: %v, %v", x.s, l, e)
		}
		if n, e := order.Height(u); n != x.height || e != api.OK {
			t.Errorf("Height of %q: %d, %v", x.s, n, e)
		}
	}
}

// P3.9, P3.10: how joins go together, and that what is wrong stays so.
func TestJoinRules(t *testing.T) {
	for x := range lattices(t, 6, 150) {
		join := func(a, b int) int { return right(order.Join(x, a, b)) }
		below := func(a, b int) bool { return right(order.Below(x, a, b)) }
		for a := range x.Elems {
			if join(a, a) != a || join(a, 0) != a || join(0, a) != a {
				t.Errorf("%v: joins of %d with itself, and 0: %d, %d", x, a, join(a, a), join(a, 0))
			}
			for b := range x.Elems {
				j := join(a, b)
				if j != join(b, a) || !below(a, j) || !below(b, j) || (j == b) != below(a, b) {
					t.Errorf("%v: %d and %d have the join %d", x, a, b, j)
				}
				if (x.Wrong[a] || x.Wrong[b]) && !x.Wrong[j] {
					t.Errorf("%v: the join of %d and %d is right", x, a, b)
				}
				for c := range x.Elems {
					if join(a, join(b, c)) != join(j, c) || below(a, c) && below(b, c) && !below(j, c) {
						t.Errorf("%v: joins of %d, %d, %d", x, a, b, c)
					}
				}
			}
		}
	}
}

// P3.11: elements are the joins of their parts.
func TestPartsRules(t *testing.T) {
	for x := range lattices(t, 7, 400) {
		parts := make([][]int, len(x.Elems))
		for a := range x.Elems {
			parts[a] = right(order.Parts(x, a))
			joined := 0
			for _, p := range parts[a] {
				joined = right(order.Join(x, joined, p))
			}
			if joined != a {
				t.Errorf("%v: the join of the parts of %d is %d", x, a, joined)
			}
		}
		for _, p := range right(order.Primes(x)) {
			if !slices.Equal(parts[p], []int{p}) {
				t.Errorf("%v: the prime %d has the parts %v", x, p, parts[p])
			}
		}
		for a := range x.Elems {
			for b := range x.Elems {
				under := func(p int) bool {
					return slices.ContainsFunc(parts[b], func(q int) bool { return right(order.Below(x, p, q)) })
				}
				if right(order.Below(x, a, b)) && slices.ContainsFunc(parts[a], func(p int) bool { return !under(p) }) {
					t.Errorf("%v: the parts of %d, %v, are not below those of %d, %v", x, a, parts[a], b, parts[b])
				}
			}
		}
	}
}

// P3.12: joins change an element as often as the height says, and not oftener.
func TestHeightRules(t *testing.T) {
	for x := range lattices(t, 8, 400) {
		changes := map[int]int{} // of an element: how often joins can change what leads to it
		most := 0
		for todo := []int{0}; len(todo) > 0; todo = todo[1:] {
			for with := range x.Elems {
				if j := right(order.Join(x, todo[0], with)); j != todo[0] && changes[j] <= changes[todo[0]] {
					changes[j] = changes[todo[0]] + 1
					most = max(most, changes[j])
					todo = append(todo, j)
				}
			}
		}
		if n := right(order.Height(x)); n != most {
			t.Errorf("Height of %v: %d, but joins can change it %d times", x, n, most)
		}
	}
}
