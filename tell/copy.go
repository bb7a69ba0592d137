package tell

import (
	"slices"

	"dripstone/api"
)

// copiedElem returns an element in new memory.
func copiedElem(e api.Elem) api.Elem {
	kids := func(e *api.Elem) *[]api.Elem {
		e.Keys = slices.Clone(e.Keys)
		return &e.Kids
	}
	return copied(e, kids, map[*api.Elem]bool{})
}

// copiedShape returns a shape in new memory.
func copiedShape(s api.Shape) api.Shape {
	kids := func(s *api.Shape) *[]api.Shape { return &s.Kids }
	return copied(s, kids, map[*api.Shape]bool{})
}

// copied returns a value whose kids, and theirs, are in new memory; open are the lists in which it lies.
func copied[T any](x T, kids func(*T) *[]T, open map[*T]bool) T {
	l := kids(&x)
	if len(*l) == 0 {
		*l = nil
		return x
	}
	first := &(*l)[0]
	if open[first] {
		// No function makes a list that lies in itself. A copy of all its levels would have no end.
		*l = nil
		return x
	}
	open[first] = true
	out := make([]T, 0, len(*l))
	for _, kid := range *l {
		out = append(out, copied(kid, kids, open))
	}
	delete(open, first)
	*l = out
	return x
}
