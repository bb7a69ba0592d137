package elem

import (
	"slices"

	"dripstone/api"
	"dripstone/order"
)

// join returns the join of two elements, whatever number of keys it has. It shares memory with them.
func (t right) join(a, b api.Elem) api.Elem {
	if a.Kind == api.ElemNone {
		return b
	}
	if b.Kind == api.ElemNone {
		return a
	}
	switch t.Shape.Kind {
	case api.ShapeMax:
		return api.Elem{Kind: api.ElemInt, N: max(a.N, b.N)}
	case api.ShapeOnce:
		if a.Kind != b.Kind || a.N != b.N {
			return api.Elem{Kind: api.ElemClash}
		}
	case api.ShapeNamed:
		n, _ := order.Join(t.table(), a.N, b.N)
		return api.Elem{Kind: api.ElemName, N: n}
	case api.ShapeSet:
		return api.Elem{Kind: api.ElemSet, Keys: union(a.Keys, b.Keys)}
	case api.ShapeMap:
		return t.joinMaps(a, b)
	case api.ShapePair:
		return pairOf(t.kid(0).join(a.Kids[0], b.Kids[0]), t.kid(1).join(a.Kids[1], b.Kids[1]))
	}
	return a
}

// joinMaps returns the join of two maps, none of them the bottom.
func (t right) joinMaps(a, b api.Elem) api.Elem {
	j := api.Elem{Kind: api.ElemMap, Keys: union(a.Keys, b.Keys)}
	for _, key := range j.Keys {
		j.Kids = append(j.Kids, t.kid(0).join(kidAt(a, key), kidAt(b, key)))
	}
	return j
}

// joinAll returns the join of the bottom and some elements, whatever number of keys it has. It shares memory with them.
func (t right) joinAll(elems ...api.Elem) api.Elem {
	switch n := len(elems); n {
	case 0:
		return api.Elem{}
	case 1:
		return elems[0]
	default:
		// One after the other, all that was joined would be gone through again for each element that is still to come.
		return t.join(t.joinAll(elems[:n/2]...), t.joinAll(elems[n/2:]...))
	}
}

// within returns a join in new memory, or the error that it has too many keys. This is so if a join on the way has too many, as no join loses a key.
func within(e api.Elem) (api.Elem, api.Errno) {
	if isOver(e) {
		return api.Elem{}, api.ErrLimit
	}
	return copied(e), api.OK
}

// isOver tells whether a set or a map in an element has more keys than there may be.
func isOver(e api.Elem) bool {
	return len(e.Keys) > api.MaxKeys || slices.ContainsFunc(e.Kids, isOver)
}

// below tells whether an element is below another one. It makes no join, as a delta asks it of each piece.
func (t right) below(a, b api.Elem) bool {
	if a.Kind == api.ElemNone || b.Kind == api.ElemNone {
		return a.Kind == api.ElemNone
	}
	switch t.Shape.Kind {
	case api.ShapeMax:
		return a.N <= b.N
	case api.ShapeOnce:
		return b.Kind == api.ElemClash || a.Kind == b.Kind && a.N == b.N
	case api.ShapeNamed:
		is, _ := order.Below(t.table(), a.N, b.N)
		return is
	case api.ShapeSet:
		return !slices.ContainsFunc(a.Keys, func(key int) bool { return !hasKey(b, key) })
	case api.ShapeMap:
		return !slices.ContainsFunc(a.Keys, func(key int) bool { return !t.kid(0).below(kidAt(a, key), kidAt(b, key)) })
	case api.ShapePair:
		return t.kid(0).below(a.Kids[0], b.Kids[0]) && t.kid(1).below(a.Kids[1], b.Kids[1])
	}
	return true
}

// isWrong tells whether an element is wrong.
func (t right) isWrong(e api.Elem) bool {
	switch e.Kind {
	case api.ElemClash:
		return true
	case api.ElemName:
		return t.table().Wrong[e.N]
	}
	for i, kid := range e.Kids {
		if t.kid(i).isWrong(kid) {
			return true
		}
	}
	return false
}
