package order_test

import (
	"iter"
	"math/rand"
	"slices"
	"strconv"
	"testing"

	"dripstone/api"
	"dripstone/order"
)

const (
	diamond = "lattice l { a: b, c; b: d; c: d; d! }"
	chain   = "lattice c { none: low; low: mid; mid: high; high }"
	pent    = "lattice n { o: a, c; a: b; b: t; c: t; t }"
	three   = "lattice m { o: a, b, c; a: t; b: t; c: t; t }"
	cycle   = "lattice x { a: b; b: a }"
	bare    = "lattice x { a: b, c; b; c }"
)

// read returns the table with a text.
func read(t *testing.T, s string) api.Table {
	t.Helper()
	x, e := order.Parse(s)
	if e != api.OK {
		t.Fatalf("Parse of %q: %v", s, e)
	}
	return x
}

// right lets a call's result through if there is no error.
func right[T any](x T, e api.Errno) T {
	if e != api.OK {
		panic("an error: " + strconv.Itoa(int(e)))
	}
	return x
}

// numbered returns a table whose elements are called by their numbers.
func numbered(above [][]int, wrong []bool) api.Table {
	t := api.Table{Name: "t", Above: above, Wrong: wrong}
	for a := range above {
		t.Elems = append(t.Elems, "e"+strconv.Itoa(a))
	}
	return t
}

// fromBits returns a table with n elements, in which a bit of above is set for each number in Above, and a bit of wrong for each wrong element.
func fromBits(n, above, wrong int) api.Table {
	up, bad := make([][]int, n), make([]bool, n)
	for a := range n {
		for b := range n {
			if above>>(a*n+b)&1 == 1 {
				up[a] = append(up[a], b)
			}
		}
		bad[a] = wrong>>a&1 == 1
	}
	return numbered(up, bad)
}

// smallTables yields all tables with up to 3 elements, those with 4 with one choice of wrong elements each, and those with 5 of which each element stands only above smaller ones.
func smallTables() iter.Seq[api.Table] {
	return func(yield func(api.Table) bool) {
		for n := 1; n <= 3; n++ {
			for bits := range 1 << (n * n) {
				for wrong := range 1 << n {
					if !yield(fromBits(n, bits, wrong)) {
						return
					}
				}
			}
		}
		for bits := range 1 << 16 {
			if !yield(fromBits(4, bits, bits*7>>4&15)) {
				return
			}
		}
		for choice := range 1 << 10 {
			for wrong := range 1 << 5 {
				if !yield(fromBits(5, upward(5, choice), wrong)) {
					return
				}
			}
		}
	}
}

// upward spreads the bits of a choice over the pairs of n elements whose second one is greater.
func upward(n, choice int) int {
	bits := 0
	for a := range n {
		for b := a + 1; b < n; b++ {
			bits |= choice & 1 << (a*n + b)
			choice >>= 1
		}
	}
	return bits
}

// someTable returns a table of any size: now and then a lattice, and often nearly one.
func someTable(r *rand.Rand) api.Table {
	switch r.Intn(3) {
	case 0:
		return someLattice(r)
	case 1:
		t := someLattice(r)
		a, b := r.Intn(len(t.Elems)), r.Intn(len(t.Elems))
		switch at, is := slices.BinarySearch(t.Above[a], b); {
		case r.Intn(4) == 0:
			t.Wrong[a] = !t.Wrong[a]
		case is:
			t.Above[a] = slices.Delete(t.Above[a], at, at+1)
		default:
			t.Above[a] = slices.Insert(t.Above[a], at, b)
		}
		return t
	}
	n := 1 + r.Intn(api.MaxElems)
	above, wrong := make([][]int, n), make([]bool, n)
	for a := range n {
		for b := range n {
			if r.Intn(n) < 2 && (b > a || r.Intn(20) == 0) {
				above[a] = append(above[a], b)
			}
		}
		wrong[a] = r.Intn(9) == 0
	}
	return numbered(above, wrong)
}

// someLattice returns a lattice: sets of points, of which any two have their union among them. Its numbers do not ascend with the order, and some steps in Above are left to others.
func someLattice(r *rand.Rand) api.Table {
	sets := []int{0}
	points := 1 + r.Intn(5)
	for range r.Intn(9) {
		more := union(sets, 1+r.Intn(1<<points-1))
		if len(more) <= api.MaxElems {
			sets = more
		}
	}
	r.Shuffle(len(sets)-1, func(i, j int) { sets[i+1], sets[j+1] = sets[j+1], sets[i+1] })
	bad := 0
	if r.Intn(2) == 0 && len(sets) > 1 {
		bad = sets[1+r.Intn(len(sets)-1)]
	}
	return ofSets(r, sets, bad)
}

// union returns sets with one more, and with its unions with them.
func union(sets []int, with int) []int {
	out := slices.Clone(sets)
	for _, s := range sets {
		if !slices.Contains(out, s|with) {
			out = append(out, s|with)
		}
	}
	return out
}

// ofSets returns the table of sets in which those above a bad one, but for the set 0, are wrong.
func ofSets(r *rand.Rand, sets []int, bad int) api.Table {
	n := len(sets)
	above, wrong := make([][]int, n), make([]bool, n)
	for a, low := range sets {
		wrong[a] = bad != 0 && low&bad == bad
		for b, high := range sets {
			between := func(s int) bool { return s != low && s != high && low&s == low && s&high == s }
			if low != high && low&high == low && (!slices.ContainsFunc(sets, between) || r.Intn(3) == 0) {
				above[a] = append(above[a], b)
			}
		}
	}
	return numbered(above, wrong)
}

// lattices yields so many lattices of all sorts.
func lattices(t *testing.T, seed int64, most int) iter.Seq[api.Table] {
	r := rand.New(rand.NewSource(seed))
	return func(yield func(api.Table) bool) {
		for range most {
			x := someLattice(r)
			if b, e := order.Prove(x); e != api.OK {
				t.Fatalf("no lattice: %v: %v, %v", x, b, e)
			}
			if !yield(x) {
				return
			}
		}
	}
}

// facts are a table with what the chapter's definitions say of it, found one by one.
type facts struct {
	api.Table
	step [][]bool // step[a][b]: one comes from a to b by one step or more
}

func factsOf(t api.Table) facts {
	f := facts{Table: t}
	for a := range t.Elems {
		seen := make([]bool, len(t.Elems))
		for todo := slices.Clone(t.Above[a]); len(todo) > 0; {
			b := todo[len(todo)-1]
			todo = todo[:len(todo)-1]
			if !seen[b] {
				seen[b] = true
				todo = append(todo, t.Above[b]...)
			}
		}
		f.step = append(f.step, seen)
	}
	return f
}

func (f facts) below(a, b int) bool { return a == b || f.step[a][b] }

// joins returns all joins of two elements, and how many elements are above both.
func (f facts) joins(a, b int) (joins []int, above int) {
	for j := range f.Elems {
		if !f.below(a, j) || !f.below(b, j) {
			continue
		}
		above++
		least := true
		for c := range f.Elems {
			least = least && (!f.below(a, c) || !f.below(b, c) || f.below(j, c))
		}
		if least {
			joins = append(joins, j)
		}
	}
	return joins, above
}

// join returns the join of two elements of a lattice.
func (f facts) join(a, b int) int {
	l, _ := f.joins(a, b)
	return l[0]
}

// allBreaks returns all breaks, by their kinds, each list in the order of pairs.
func (f facts) allBreaks() map[uint8][]api.Break {
	out := map[uint8][]api.Break{}
	add := func(kind uint8, a, b int) { out[kind] = append(out[kind], api.Break{Kind: kind, A: a, B: b}) }
	for a := range f.Elems {
		if f.step[a][a] {
			add(api.BreakCycle, a, 0)
		}
		if !f.below(0, a) {
			add(api.BreakBase, a, 0)
		}
		for b := range f.Elems {
			l, above := f.joins(a, b)
			switch {
			case a < b && above == 0:
				add(api.BreakNone, a, b)
			case a < b && len(l) == 0:
				add(api.BreakMany, a, b)
			}
			if f.Wrong[a] && (a == 0 || f.below(a, b) && !f.Wrong[b]) {
				add(api.BreakWrong, a, b)
			}
		}
	}
	return out
}

// first returns the break of the table.
func (f facts) first() api.Break {
	all := f.allBreaks()
	none, many := all[api.BreakNone], all[api.BreakMany]
	pairs := slices.Concat(none, many)
	slices.SortStableFunc(pairs, func(x, y api.Break) int { return slices.Compare([]int{x.A, x.B}, []int{y.A, y.B}) })
	for _, l := range [][]api.Break{all[api.BreakCycle], all[api.BreakBase], pairs, all[api.BreakWrong]} {
		if len(l) > 0 {
			return l[0]
		}
	}
	return api.Break{}
}

// primes returns all primes of a lattice.
func (f facts) primes() []int {
	var l []int
	for p := 1; p < len(f.Elems); p++ {
		joined := false
		for a := range f.Elems {
			for b := range f.Elems {
				joined = joined || a != p && b != p && f.join(a, b) == p
			}
		}
		if !joined {
			l = append(l, p)
		}
	}
	return l
}

// parts returns the parts of an element of a lattice.
func (f facts) parts(a int) []int {
	var l []int
	primes := slices.DeleteFunc(f.primes(), func(p int) bool { return !f.below(p, a) })
	for _, p := range primes {
		if !slices.ContainsFunc(primes, func(q int) bool { return q != p && f.below(p, q) }) {
			l = append(l, p)
		}
	}
	return l
}

// high returns how many steps up there are at most from an element of a lattice on.
func (f facts) high(a int) int {
	most := 0
	for _, b := range f.Above[a] {
		most = max(most, 1+f.high(b))
	}
	return most
}

// next returns the elements right above an element of a lattice.
func (f facts) next(a int) []int {
	var l []int
	for c := range f.Elems {
		between := false
		for b := range f.Elems {
			between = between || f.step[a][b] && f.step[b][c]
		}
		if f.step[a][c] && !between {
			l = append(l, c)
		}
	}
	return l
}

// copied returns a table that shares no memory with another one.
func copied(t api.Table) api.Table {
	t.Elems, t.Wrong, t.Above = slices.Clone(t.Elems), slices.Clone(t.Wrong), slices.Clone(t.Above)
	for a := range t.Above {
		t.Above[a] = slices.Clone(t.Above[a])
	}
	return t
}

// sameTable tells whether two tables are equal.
func sameTable(a, b api.Table) bool {
	return a.Name == b.Name && slices.Equal(a.Elems, b.Elems) && slices.Equal(a.Wrong, b.Wrong) &&
		slices.EqualFunc(a.Above, b.Above, func(x, y []int) bool { return slices.Equal(x, y) })
}

// sameShape tells whether two shapes are equal.
func sameShape(a, b api.Shape) bool {
	return a.Kind == b.Kind && a.Name == b.Name && slices.EqualFunc(a.Kids, b.Kids, sameShape)
}
