package check

import (
	"slices"

	"dripstone/api"
)

// shapeFor returns the node of the shape that a point is for, or -1 if there is none.
func (v view) shapeFor(point int) int {
	up := v.ups[point]
	if v.is(up, api.PutStmt, api.CaseNode) {
		stmt := up
		if v.is(up, api.CaseNode) {
			stmt = v.ups[up]
		}
		if v.means[stmt] < 0 {
			return -1
		}
		return v.shapeOf(v.means[stmt])
	}
	shape := v.shapeFor(up)
	if shape < 0 || !v.fits(up, shape) {
		return -1
	}
	part := shape + 1
	if v.isSecond(point) {
		part = v.end(part)
	}
	return part
}

// isSecond tells whether a point is the second one of a pair.
func (v view) isSecond(point int) bool {
	up := v.ups[point]
	return v.is(up, api.PairPoint) && (v.Nodes[up].N == 2 || v.number(point) == 1)
}

// fits tells whether a point, whatever is in it, is of the kind that a shape needs, and names an element of it.
func (v view) fits(point, shape int) bool {
	switch v.Nodes[point].Kind {
	case api.OnPoint:
		return v.is(shape, api.FlagType)
	case api.IntPoint:
		return v.is(shape, api.MaxType, api.OnceType)
	case api.SetPoint:
		return v.is(shape, api.SetType)
	case api.NamePoint:
		return v.means[point] >= 0
	case api.KeyPoint:
		return v.is(shape, api.MapType)
	}
	return v.is(shape, api.PairType)
}

// pointError is of a point that does not fit what it is for. In a point that does not fit there is nothing that another one is for.
func (v view) pointError(node int) api.Errno {
	shape := v.shapeFor(node)
	return errorIf(shape >= 0 && !v.fits(node, shape), api.ErrType)
}

// constant returns the value of an expr, if this is a number, or a number below 0; otherwise 0.
func (v view) constant(expr int) (int, bool) {
	if v.is(expr, api.NumNode) {
		return v.Nodes[expr].N, true
	}
	if v.is(expr, api.NegNode) && v.is(expr+1, api.NumNode) {
		return -v.Nodes[expr+1].N, true
	}
	return 0, false
}

// isConstant tells whether each expr in a point is constant.
func (v view) isConstant(point int) bool {
	for expr := range v.below(point, exprs()...) {
		if _, ok := v.constant(expr); !ok {
			return false
		}
	}
	return true
}

// elem returns the element of a point that fits its shape; an expr that is not constant counts as 0.
func (v view) elem(point int) api.Elem {
	kids := slices.Collect(v.kids(point))
	switch v.Nodes[point].Kind {
	case api.OnPoint:
		return api.Elem{Kind: api.ElemOn}
	case api.IntPoint:
		n, _ := v.constant(kids[0])
		return api.Elem{Kind: api.ElemInt, N: n}
	case api.SetPoint:
		return api.Elem{Kind: api.ElemSet, Keys: v.keys(kids)}
	case api.NamePoint:
		return api.Elem{Kind: api.ElemName, N: v.number(v.means[point])}
	case api.KeyPoint:
		return api.Elem{Kind: api.ElemMap, Keys: v.keys(kids[:1]), Kids: []api.Elem{v.elem(kids[1])}}
	}
	pair := make([]api.Elem, 2)
	for _, kid := range kids {
		i := 0
		if v.isSecond(kid) {
			i = 1
		}
		pair[i] = v.elem(kid)
	}
	return api.Elem{Kind: api.ElemPair, Kids: pair}
}

// keys returns the values of exprs, ascending, each once.
func (v view) keys(exprs []int) []int {
	var out []int
	for _, expr := range exprs {
		n, _ := v.constant(expr)
		out = append(out, n)
	}
	slices.Sort(out)
	return slices.Compact(out)
}

// pointsOf returns the points of a PutStmt or a WhenStmt.
func (v view) pointsOf(stmt int) []int {
	var out []int
	for kid := range v.kids(stmt) {
		if v.is(kid, api.CaseNode) {
			kid++
		}
		out = append(out, kid)
	}
	return out
}

// constants returns the elements of the points of a PutStmt or a WhenStmt, or that one is not constant.
func (v view) constants(stmt int) ([]api.Elem, api.Errno) {
	var out []api.Elem
	for _, point := range v.pointsOf(stmt) {
		if !v.isConstant(point) {
			return nil, api.ErrState
		}
		out = append(out, v.elem(point))
	}
	return out, api.OK
}
