package elem

import (
	"slices"

	"dripstone/api"
	"dripstone/order"
)

// right is a lattice that is right.
type right struct{ api.Lattice }

// among returns a lattice, or the error that it is not right, or that one of some elements is none of it.
func among(t api.Lattice, elems ...api.Elem) (right, api.Errno) {
	if err := order.CheckShape(t.Tables, t.Shape); err != api.OK {
		return right{}, err
	}
	x := right{t}
	if slices.ContainsFunc(elems, func(e api.Elem) bool { return !x.has(e) }) {
		return right{}, api.ErrArg
	}
	return x, api.OK
}

// kid returns the lattice of which the kid i of an element of a map or a pair is one.
func (t right) kid(i int) right {
	if t.Shape.Kind == api.ShapeMap {
		i = 0
	}
	t.Shape = t.Shape.Kids[i]
	return t
}

// table returns the table that the shape names.
func (t right) table() api.Table {
	i := slices.IndexFunc(t.Tables, func(x api.Table) bool { return x.Name == t.Shape.Name })
	return t.Tables[i]
}

// has tells whether an element is one of the lattice.
func (t right) has(e api.Elem) bool {
	return t.hasKind(e.Kind) && t.hasNumber(e) && hasKeys(e) && t.hasKids(e)
}

// hasKind tells whether there are elements of a kind.
func (t right) hasKind(kind uint8) bool {
	switch kind {
	case api.ElemNone:
		return true
	case api.ElemOn:
		return t.Shape.Kind == api.ShapeFlag
	case api.ElemInt:
		return t.Shape.Kind == api.ShapeMax || t.Shape.Kind == api.ShapeOnce
	case api.ElemClash:
		return t.Shape.Kind == api.ShapeOnce
	case api.ElemName:
		return t.Shape.Kind == api.ShapeNamed
	case api.ElemSet:
		return t.Shape.Kind == api.ShapeSet
	case api.ElemMap:
		return t.Shape.Kind == api.ShapeMap
	case api.ElemPair:
		return t.Shape.Kind == api.ShapePair
	}
	return false
}

// hasNumber tells whether the number of an element is one that its kind can have.
func (t right) hasNumber(e api.Elem) bool {
	switch e.Kind {
	case api.ElemInt:
		return isInteger(e.N)
	case api.ElemName:
		return 1 <= e.N && e.N < len(t.table().Elems)
	}
	return e.N == 0
}

func isInteger(n int) bool { return -api.MaxNumber <= n && n <= api.MaxNumber }

// hasKeys tells whether the keys of an element are some that its kind can have.
func hasKeys(e api.Elem) bool {
	if e.Kind != api.ElemSet && e.Kind != api.ElemMap {
		return len(e.Keys) == 0
	}
	if len(e.Keys) < 1 || len(e.Keys) > api.MaxKeys {
		return false
	}
	odd := func(key int) bool { return !isInteger(key) }
	return ascends(e.Keys) && !slices.ContainsFunc(e.Keys, odd)
}

// ascends tells whether each key is greater than the one before.
func ascends(keys []int) bool {
	for i := 1; i < len(keys); i++ {
		if keys[i] <= keys[i-1] {
			return false
		}
	}
	return true
}

// hasKids tells whether the kids of an element are some that its kind can have.
func (t right) hasKids(e api.Elem) bool {
	if len(e.Kids) != kidsOf(e) {
		return false
	}
	bottoms := 0
	for i, kid := range e.Kids {
		if !t.kid(i).has(kid) {
			return false
		}
		if kid.Kind == api.ElemNone {
			bottoms++
		}
	}
	return bottoms == 0 || e.Kind == api.ElemPair && bottoms == 1
}

// kidsOf returns how many kids an element must have.
func kidsOf(e api.Elem) int {
	switch e.Kind {
	case api.ElemMap:
		return len(e.Keys)
	case api.ElemPair:
		return 2
	}
	return 0
}
