package tell

import (
	"slices"

	"dripstone/api"
)

// meaning is what a name of a task stands for.
type meaning struct {
	n int      // the integer, or the number of the variable
	e api.Elem // the value of what was frozen
}

// reckoner works out exprs by what the names of a task stand for.
type reckoner struct {
	*program
	names map[int]meaning // by their declarations
	fault int             // the first node at which an expr failed, or 0
}

// meant returns what the name of a node stands for.
func (r *reckoner) meant(node int) meaning { return r.names[r.Means[node]] }

// integers returns the integers of exprs.
func (r *reckoner) integers(exprs ...int) []int {
	var out []int
	for _, expr := range exprs {
		n := r.integer(expr)
		out = append(out, n)
	}
	return out
}

// integer returns the integer of an expr: 0, if it fails. (Of a NameNode that means a variable its number.)
func (r *reckoner) integer(expr int) int {
	kids := r.integers(slices.Collect(r.kids(expr))...)
	switch r.Nodes[expr].Kind {
	case api.NumNode:
		return r.Nodes[expr].N
	case api.NameNode:
		return r.meant(expr).n
	case api.SizeNode:
		return len(r.meant(expr).e.Keys)
	case api.HasNode:
		return oneIf(slices.Contains(r.meant(expr).e.Keys, kids[0]))
	case api.ValueNode:
		if value := r.meant(expr).e; value.Kind != api.ElemNone {
			return value.N
		}
		return kids[0]
	case api.NegNode:
		return -kids[0]
	}
	return r.arith(expr, kids[0], kids[1])
}

// arith returns the integer of an expr of two exprs that come to some integers.
func (r *reckoner) arith(expr, a, b int) int {
	var n int
	switch r.Nodes[expr].Kind {
	case api.EqNode:
		return oneIf(a == b)
	case api.NeNode:
		return oneIf(a != b)
	case api.LtNode:
		return oneIf(a < b)
	case api.LeNode:
		return oneIf(a <= b)
	case api.GtNode:
		return oneIf(a > b)
	case api.GeNode:
		return oneIf(a >= b)
	case api.AddNode:
		n = a + b
	case api.SubNode:
		n = a - b
	case api.MulNode:
		n = a * b
	case api.DivNode:
		if b == 0 {
			return r.fails(expr)
		}
		n = a / b
	}
	if isTooFar(n) {
		return r.fails(expr)
	}
	return n
}

// fails notes that an expr fails.
func (r *reckoner) fails(expr int) int {
	if r.fault == 0 {
		r.fault = expr
	}
	return 0
}

// failure returns the number with which a task fails by its fault.
func (r *reckoner) failure() int {
	if r.is(r.fault, api.DivNode) {
		return -1
	}
	return -2
}

// elem returns the element of a point.
func (r *reckoner) elem(point int) api.Elem {
	kids := slices.Collect(r.kids(point))
	switch n := r.Nodes[point]; n.Kind {
	case api.IntPoint:
		return api.Elem{Kind: api.ElemInt, N: r.integer(kids[0])}
	case api.SetPoint:
		keys := r.integers(kids...)
		slices.Sort(keys)
		return api.Elem{Kind: api.ElemSet, Keys: slices.Compact(keys)}
	case api.NamePoint:
		return api.Elem{Kind: api.ElemName, N: r.number(r.Means[point])}
	case api.KeyPoint:
		key := r.integers(kids[0])
		return api.Elem{Kind: api.ElemMap, Keys: key, Kids: []api.Elem{r.elem(kids[1])}}
	case api.PairPoint:
		pair := make([]api.Elem, 2)
		for i, kid := range kids {
			if n.N == 2 {
				i = 1
			}
			pair[i] = r.elem(kid)
		}
		return api.Elem{Kind: api.ElemPair, Kids: pair}
	}
	return api.Elem{Kind: api.ElemOn}
}

// number returns which element of its table an ElemNode is.
func (r *reckoner) number(node int) int {
	return slices.Index(r.kidsOf(r.ups[node], api.ElemNode), node)
}

func oneIf(is bool) int {
	if is {
		return 1
	}
	return 0
}
