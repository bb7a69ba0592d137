package tell

import (
	"slices"

	"dripstone/api"
	"dripstone/elem"
)

// agree tells whether two outcomes are the same.
func agree(a, b api.Outcome) bool {
	sameWait := func(a, b api.Wait) bool { return a.Site == b.Site && slices.Equal(a.Path, b.Path) }
	return a.Tasks == b.Tasks && a.Steps == b.Steps && slices.Equal(a.Fails, b.Fails) &&
		slices.EqualFunc(a.Waits, b.Waits, sameWait) && slices.EqualFunc(a.Vars, b.Vars, isSameVar)
}

// isSameVar tells whether two variables are the same.
func isSameVar(a, b api.VarState) bool {
	return compareVars(a, b) == 0 && isSameShape(a.Shape, b.Shape) && isSameElem(a.E, b.E)
}

// isSameElem tells whether two elements, of whatever lattices, are the same.
func isSameElem(a, b api.Elem) bool { return !elem.Less(a, b) && !elem.Less(b, a) }

// isSameShape tells whether two shapes, of whatever form, are the same.
func isSameShape(a, b api.Shape) bool { return sameShapes{}.are(a, b) }

// sameShapes are pairs of lists that are the same, unless something else in what is compared is not.
type sameShapes map[shapePair]bool

// shapePair is where two lists of as many shapes begin.
type shapePair struct {
	a, b  *api.Shape
	count int
}

func (s sameShapes) are(a, b api.Shape) bool {
	if a.Kind != b.Kind || a.Name != b.Name || len(a.Kids) != len(b.Kids) {
		return false
	}
	if len(a.Kids) == 0 {
		return true
	}
	// Shapes that no function has made can have one list of kids again and again, or in itself.
	pair := shapePair{&a.Kids[0], &b.Kids[0], len(a.Kids)}
	if s[pair] {
		return true
	}
	s[pair] = true
	return slices.EqualFunc(a.Kids, b.Kids, s.are)
}

// isSound tells whether the values of an outcome are elements of their shapes, and no variable is there twice.
func isSound(l []api.Table, o api.Outcome) bool {
	isWrong := func(v api.VarState) bool {
		return elem.Check(api.Lattice{Tables: l, Shape: v.Shape}, v.E) != api.OK
	}
	vars := sorted(o.Vars)
	for i := 1; i < len(vars); i++ {
		if compareVars(vars[i-1], vars[i]) == 0 {
			return false
		}
	}
	return !slices.ContainsFunc(vars, isWrong)
}

// sorted returns variables by who made them, and where.
func sorted(l []api.VarState) []api.VarState {
	return slices.SortedFunc(slices.Values(l), compareVars)
}

// isBelow tells whether an outcome is below another one, both of which are sound.
func isBelow(l []api.Table, a, b api.Outcome) bool {
	vars, fails := sorted(b.Vars), counts(b.Fails)
	for _, v := range a.Vars {
		i, is := slices.BinarySearchFunc(vars, v, compareVars)
		if !is || !isSameShape(v.Shape, vars[i].Shape) {
			return false
		}
		if below, _ := elem.Below(api.Lattice{Tables: l, Shape: v.Shape}, v.E, vars[i].E); !below {
			return false
		}
	}
	for n, count := range counts(a.Fails) {
		if count > fails[n] {
			return false
		}
	}
	return a.Tasks <= b.Tasks && a.Steps <= b.Steps
}

// counts returns how often each number is there.
func counts(l []int) map[int]int {
	out := map[int]int{}
	for _, n := range l {
		out[n]++
	}
	return out
}
