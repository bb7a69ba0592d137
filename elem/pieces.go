package elem

import (
	"iter"

	"dripstone/api"
	"dripstone/order"
)

// pieces yields the pieces of an element in their order, each in new memory.
func (t right) pieces(e api.Elem) iter.Seq[api.Elem] {
	return func(yield func(api.Elem) bool) {
		switch e.Kind {
		case api.ElemNone:
		case api.ElemName:
			parts, _ := order.Parts(t.table(), e.N)
			for _, n := range parts {
				if !yield(api.Elem{Kind: api.ElemName, N: n}) {
					return
				}
			}
		case api.ElemSet:
			for _, key := range e.Keys {
				if !yield(setOf(key)) {
					return
				}
			}
		case api.ElemMap, api.ElemPair:
			for i, kid := range e.Kids {
				for p := range t.kid(i).pieces(kid) {
					if !yield(only(e, i, p)) {
						return
					}
				}
			}
		default:
			yield(api.Elem{Kind: e.Kind, N: e.N})
		}
	}
}

// only returns what is left of a map or a pair if it has nothing but a piece where its kid i is.
func only(e api.Elem, i int, piece api.Elem) api.Elem {
	switch {
	case e.Kind == api.ElemMap:
		return mapOf(e.Keys[i], piece)
	case i == 0:
		return pairOf(piece, api.Elem{})
	}
	return pairOf(api.Elem{}, piece)
}

// more returns what b has more than a, in new memory, as it is made of pieces.
func (t right) more(a, b api.Elem) api.Elem {
	var l []api.Elem
	for p := range t.pieces(b) {
		if !t.below(p, a) {
			l = append(l, p)
		}
	}
	return t.joinAll(l...)
}
