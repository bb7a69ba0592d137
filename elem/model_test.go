package elem_test

import (
	"cmp"
	"fmt"
	"slices"
	"strings"

	"dripstone/api"
	"dripstone/order"
)

// leaf is what an element has at the end of a path of keys and sides: an element without keys and kids; of a set that the key is there.
type leaf struct {
	path []int
	kind uint8
	n    int
}

// leaves returns all leaves of an element, in the order of their paths.
func leaves(e api.Elem, path ...int) []leaf {
	path = slices.Clone(path)
	var l []leaf
	switch e.Kind {
	case api.ElemNone:
	case api.ElemSet:
		for _, key := range e.Keys {
			l = append(l, leaf{append(slices.Clone(path), key), api.ElemSet, 0})
		}
	case api.ElemMap:
		for i, key := range e.Keys {
			l = append(l, leaves(e.Kids[i], append(path, key)...)...)
		}
	case api.ElemPair:
		for i, kid := range e.Kids {
			l = append(l, leaves(kid, append(path, i)...)...)
		}
	default:
		l = append(l, leaf{path, e.Kind, e.N})
	}
	return l
}

// built returns the element with some leaves, whose paths ascend. Of each path so many steps are done.
func built(l api.Lattice, from []leaf, done int) api.Elem {
	if len(from) == 0 {
		return none
	}
	var steps []int
	for _, x := range from {
		if len(x.path) > done {
			steps = append(steps, x.path[done])
		}
	}
	steps = slices.Compact(steps)
	behind := func(step int) []leaf {
		return slices.DeleteFunc(slices.Clone(from), func(x leaf) bool { return x.path[done] != step })
	}
	switch l.Shape.Kind {
	case api.ShapeSet:
		return setOf(steps...)
	case api.ShapeMap:
		e := mapOf(steps)
		for _, key := range steps {
			e.Kids = append(e.Kids, built(kidOf(l, 0), behind(key), done+1))
		}
		return e
	case api.ShapePair:
		return pairOf(built(kidOf(l, 0), behind(0), done+1), built(kidOf(l, 1), behind(1), done+1))
	}
	return api.Elem{Kind: from[0].kind, N: from[0].n}
}

// leafLattice returns the lattice of what is at the end of a path; that of a set, if a set is on the way.
func leafLattice(l api.Lattice, path []int) api.Lattice {
	for _, step := range path {
		switch l.Shape.Kind {
		case api.ShapeMap:
			l = kidOf(l, 0)
		case api.ShapePair:
			l = kidOf(l, step)
		}
	}
	return l
}

// joinLeaves returns the join of two leaves with the same path.
func joinLeaves(l api.Lattice, a, b leaf) leaf {
	l = leafLattice(l, a.path)
	switch {
	case l.Shape.Kind == api.ShapeMax:
		return leaf{a.path, api.ElemInt, max(a.n, b.n)}
	case l.Shape.Kind == api.ShapeOnce && (a.kind != b.kind || a.n != b.n):
		return leaf{a.path, api.ElemClash, 0}
	case l.Shape.Kind == api.ShapeNamed:
		return leaf{a.path, api.ElemName, right(order.Join(tableOf(l), a.n, b.n))}
	}
	return a
}

// modelJoin returns the join of some elements, of any number of keys: of all that they have at each path.
func modelJoin(l api.Lattice, elems ...api.Elem) api.Elem {
	var all []leaf
	for _, e := range elems {
		all = append(all, leaves(e)...)
	}
	slices.SortStableFunc(all, func(a, b leaf) int { return slices.Compare(a.path, b.path) })
	var out []leaf
	for _, x := range all {
		if n := len(out); n > 0 && slices.Equal(out[n-1].path, x.path) {
			out[n-1] = joinLeaves(l, out[n-1], x)
			continue
		}
		out = append(out, x)
	}
	return built(l, out, 0)
}

// modelBelow tells whether an element is below another one.
func modelBelow(l api.Lattice, a, b api.Elem) bool { return same(modelJoin(l, a, b), b) }

// modelWrong tells whether an element is wrong.
func modelWrong(l api.Lattice, e api.Elem) bool {
	return slices.ContainsFunc(leaves(e), func(x leaf) bool {
		return x.kind == api.ElemClash || x.kind == api.ElemName && tableOf(leafLattice(l, x.path)).Wrong[x.n]
	})
}

// modelPieces returns the pieces of an element.
func modelPieces(l api.Lattice, e api.Elem) []api.Elem {
	var out []api.Elem
	for _, x := range leaves(e) {
		numbers := []int{x.n}
		if x.kind == api.ElemName {
			numbers = right(order.Parts(tableOf(leafLattice(l, x.path)), x.n))
		}
		for _, n := range numbers {
			out = append(out, built(l, []leaf{{x.path, x.kind, n}}, 0))
		}
	}
	return out
}

// modelDelta returns what b has more than a.
func modelDelta(l api.Lattice, a, b api.Elem) api.Elem {
	pieces := modelPieces(l, b)
	return modelJoin(l, slices.DeleteFunc(pieces, func(p api.Elem) bool { return modelBelow(l, p, a) })...)
}

// isOver tells whether a set or a map has more keys than there may be.
func isOver(e api.Elem) bool {
	return len(e.Keys) > api.MaxKeys || slices.ContainsFunc(e.Kids, isOver)
}

// modelCompare compares two elements of any lattice, or of none.
func modelCompare(a, b api.Elem) int {
	switch {
	case a.Kind != b.Kind:
		return cmp.Compare(a.Kind, b.Kind)
	case a.N != b.N:
		return cmp.Compare(a.N, b.N)
	case !slices.Equal(a.Keys, b.Keys):
		return slices.Compare(a.Keys, b.Keys)
	}
	for i := range min(len(a.Kids), len(b.Kids)) {
		if by := modelCompare(a.Kids[i], b.Kids[i]); by != 0 {
			return by
		}
	}
	return len(a.Kids) - len(b.Kids)
}

// modelText returns the text of an element.
func modelText(l api.Lattice, e api.Elem) string {
	var parts []string
	for i, key := range e.Keys {
		parts = append(parts, fmt.Sprint(key))
		if e.Kind == api.ElemMap {
			parts[i] += ": " + modelText(kidOf(l, 0), e.Kids[i])
		}
	}
	if e.Kind == api.ElemPair {
		parts = append(parts, modelText(kidOf(l, 0), e.Kids[0]), modelText(kidOf(l, 1), e.Kids[1]))
	}
	all := strings.Join(parts, ", ")
	switch e.Kind {
	case api.ElemOn:
		return "on"
	case api.ElemInt:
		return fmt.Sprint(e.N)
	case api.ElemClash:
		return "clash"
	case api.ElemName:
		return "#" + tableOf(l).Elems[e.N]
	case api.ElemSet:
		return "{" + all + "}"
	case api.ElemMap:
		return "[" + all + "]"
	case api.ElemPair:
		return "(" + all + ")"
	}
	return "none"
}

// modelCount returns the bytes of a count: as few groups of 7 bits as there must be.
func modelCount(n int) []byte {
	groups := 1
	for n>>(7*groups) > 0 {
		groups++
	}
	var b []byte
	for i := range groups {
		b = append(b, byte(n>>(7*i)&127))
		if i < groups-1 {
			b[i] += 128
		}
	}
	return b
}

// modelNumber returns the bytes of a number.
func modelNumber(n int) []byte {
	if n >= 0 {
		return modelCount(n * 2)
	}
	return modelCount(-n*2 - 1)
}

// modelBytes returns the bytes of an element.
func modelBytes(e api.Elem) []byte {
	b := []byte{e.Kind}
	switch e.Kind {
	case api.ElemInt:
		return append(b, modelNumber(e.N)...)
	case api.ElemName:
		return append(b, modelCount(e.N)...)
	case api.ElemSet, api.ElemMap:
		b = append(b, modelCount(len(e.Keys))...)
	}
	for i, key := range e.Keys {
		b = append(b, modelNumber(key)...)
		if e.Kind == api.ElemMap {
			b = append(b, modelBytes(e.Kids[i])...)
		}
	}
	if e.Kind == api.ElemPair {
		b = slices.Concat(b, modelBytes(e.Kids[0]), modelBytes(e.Kids[1]))
	}
	return b
}

// modelHas tells whether an element is one of a lattice.
func modelHas(l api.Lattice, e api.Elem) bool {
	if e.Kind == api.ElemNone {
		return e.N == 0 && len(e.Keys) == 0 && len(e.Kids) == 0
	}
	is := func(n int) bool { return n >= -1000000000 && n <= 1000000000 }
	bare := len(e.Keys) == 0 && len(e.Kids) == 0
	keyed := e.N == 0 && len(e.Keys) >= 1 && len(e.Keys) <= 40 && slices.IsSorted(e.Keys) && len(slices.Compact(slices.Clone(e.Keys))) == len(e.Keys) && is(e.Keys[0]) && is(e.Keys[len(e.Keys)-1])
	switch l.Shape.Kind {
	case api.ShapeFlag:
		return e.Kind == api.ElemOn && e.N == 0 && bare
	case api.ShapeMax:
		return e.Kind == api.ElemInt && is(e.N) && bare
	case api.ShapeOnce:
		return (e.Kind == api.ElemInt && is(e.N) || e.Kind == api.ElemClash && e.N == 0) && bare
	case api.ShapeNamed:
		return e.Kind == api.ElemName && e.N > 0 && e.N < len(tableOf(l).Elems) && bare
	case api.ShapeSet:
		return e.Kind == api.ElemSet && keyed && len(e.Kids) == 0
	case api.ShapeMap:
		return e.Kind == api.ElemMap && keyed && len(e.Kids) == len(e.Keys) && !slices.ContainsFunc(e.Kids, func(kid api.Elem) bool { return kid.Kind == 0 || !modelHas(kidOf(l, 0), kid) })
	}
	return e.Kind == api.ElemPair && e.N == 0 && len(e.Keys) == 0 && len(e.Kids) == 2 && modelHas(kidOf(l, 0), e.Kids[0]) && modelHas(kidOf(l, 1), e.Kids[1]) && e.Kids[0].Kind+e.Kids[1].Kind > 0
}
