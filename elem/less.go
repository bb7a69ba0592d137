package elem

import (
	"cmp"
	"slices"

	"dripstone/api"
)

// lists are two lists of elements, or what is left of them.
type lists struct{ a, b []api.Elem }

// place is where two lists are, if both have elements, and how long they are.
type place struct {
	a, b           *api.Elem
	countA, countB int
}

// compare returns a number below 0 if an element comes before another one, above 0 if it comes behind it, 0 if they are equal.
func compare(a, b api.Elem) int {
	// An element of no lattice can have levels without end, or one list of kids again and again: so the lists that are left wait here, and no two are gone through together twice.
	todo := []lists{{[]api.Elem{a}, []api.Elem{b}}}
	seen := map[place]bool{}
	for len(todo) > 0 {
		l := &todo[len(todo)-1]
		if l.isDone() {
			if len(l.a) != len(l.b) {
				return cmp.Compare(len(l.a), len(l.b))
			}
			todo = todo[:len(todo)-1]
			continue
		}
		x, y := l.next()
		if by := compareAlone(x, y); by != 0 {
			return by
		}
		if kids := (lists{x.Kids, y.Kids}); !seen[kids.place()] {
			seen[kids.place()] = true
			todo = append(todo, kids)
		}
	}
	return 0
}

// compareAlone compares two elements without their kids.
func compareAlone(a, b api.Elem) int {
	return cmp.Or(cmp.Compare(a.Kind, b.Kind), cmp.Compare(a.N, b.N), slices.Compare(a.Keys, b.Keys))
}

// isDone tells whether nothing is left of one of the lists.
func (l lists) isDone() bool { return len(l.a) == 0 || len(l.b) == 0 }

// next takes the first elements away.
func (l *lists) next() (api.Elem, api.Elem) {
	a, b := l.a[0], l.b[0]
	l.a, l.b = l.a[1:], l.b[1:]
	return a, b
}

func (l lists) place() place {
	p := place{countA: len(l.a), countB: len(l.b)}
	if !l.isDone() {
		p.a, p.b = &l.a[0], &l.b[0]
	}
	return p
}
