package order

import (
	"iter"
	"slices"

	"dripstone/api"
)

// known is a table whose steps are known: for each element, those above it.
type known struct {
	api.Table
	reach [api.MaxElems]some
}

// know finds out the steps of a table that has its form.
func know(t api.Table) known {
	x := known{Table: t}
	for a, up := range x.Above {
		x.reach[a] = of(a) | of(up...)
	}
	for via := range x.Elems {
		for a := range x.Elems {
			if x.reach[a].has(via) {
				x.reach[a] |= x.reach[via]
			}
		}
	}
	return x
}

// formed returns a table with its steps, or the error that it has not its form.
func formed(t api.Table) (known, api.Errno) {
	if e := Check(t); e != api.OK {
		return known{}, e
	}
	return know(t), api.OK
}

// proved returns a lattice with its steps, or the error that a table is none.
func proved(t api.Table) (known, api.Errno) {
	x, e := formed(t)
	if e != api.OK {
		return known{}, e
	}
	if !x.isLattice() {
		return known{}, api.ErrFalse
	}
	return x, api.OK
}

// hasAll tells whether there are elements with some numbers.
func (t known) hasAll(elems ...int) bool {
	return every(elems, func(a int) bool { return 0 <= a && a < len(t.Elems) })
}

// pairs yields all pairs of elements in their order, the smaller number first.
func (t known) pairs() iter.Seq2[int, int] {
	return func(yield func(int, int) bool) {
		for a := range t.Elems {
			for b := a + 1; b < len(t.Elems); b++ {
				if !yield(a, b) {
					return
				}
			}
		}
	}
}

// beyond returns what is above any of some elements of a lattice, but that one itself.
func (t known) beyond(s some) some {
	var up some
	for _, a := range s.list() {
		up |= t.reach[a] &^ of(a)
	}
	return up
}

// join returns the join of two elements, or the kind of the break that they are.
func (t known) join(a, b int) (int, uint8) {
	both := t.reach[a] & t.reach[b]
	if both == 0 {
		return 0, api.BreakNone
	}
	// What is above an element above both is above both, too: so just of a join these are all.
	join := slices.Index(t.reach[:len(t.Elems)], both)
	if join < 0 {
		return 0, api.BreakMany
	}
	return join, 0
}

// primes returns the primes of a lattice.
func (t known) primes() some {
	primes := t.reach[0] &^ of(0)
	for a, b := range t.pairs() {
		if join, _ := t.join(a, b); join != a && join != b {
			primes &^= of(join)
		}
	}
	return primes
}

// parts returns the parts of an element of a lattice.
func (t known) parts(a int) some {
	var below some
	for _, p := range t.primes().list() {
		if t.reach[p].has(a) {
			below |= of(p)
		}
	}
	parts := below
	for _, p := range below.list() {
		if t.reach[p]&below != of(p) {
			parts &^= of(p)
		}
	}
	return parts
}

// height returns the height of a lattice: as often as that one can go on beyond the element 0.
func (t known) height() int {
	steps := 0
	for s := t.beyond(of(0)); s != 0; s = t.beyond(s) {
		steps++
	}
	return steps
}

// slim returns the slim table of a lattice.
func (t known) slim() api.Table {
	out := api.Table{Name: t.Name, Elems: slices.Clone(t.Elems), Wrong: slices.Clone(t.Wrong)}
	for a := range t.Elems {
		up := t.beyond(of(a))
		out.Above = append(out.Above, (up &^ t.beyond(up)).list())
	}
	return out
}
