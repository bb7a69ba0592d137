package elem

import (
	"slices"

	"dripstone/api"
)

// setOf returns the set of a key.
func setOf(key int) api.Elem {
	return api.Elem{Kind: api.ElemSet, Keys: []int{key}}
}

// mapOf returns the map of a key with an element.
func mapOf(key int, e api.Elem) api.Elem {
	return api.Elem{Kind: api.ElemMap, Keys: []int{key}, Kids: []api.Elem{e}}
}

// pairOf returns the pair of two elements.
func pairOf(a, b api.Elem) api.Elem {
	return api.Elem{Kind: api.ElemPair, Kids: []api.Elem{a, b}}
}

// union returns all keys of two lists, ascending.
func union(a, b []int) []int {
	l := slices.Concat(a, b)
	slices.Sort(l)
	return slices.Compact(l)
}

// hasKey tells whether a set has a key.
func hasKey(e api.Elem, key int) bool {
	_, is := slices.BinarySearch(e.Keys, key)
	return is
}

// kidAt returns what a map has at a key: the bottom if it has not the key.
func kidAt(e api.Elem, key int) api.Elem {
	i, is := slices.BinarySearch(e.Keys, key)
	if !is {
		return api.Elem{}
	}
	return e.Kids[i]
}

// copied returns an element in new memory.
func copied(e api.Elem) api.Elem {
	out := api.Elem{Kind: e.Kind, N: e.N, Keys: append([]int(nil), e.Keys...)}
	for _, kid := range e.Kids {
		out.Kids = append(out.Kids, copied(kid))
	}
	return out
}
