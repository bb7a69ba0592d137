package check

import (
	"slices"

	"dripstone/api"
	"dripstone/order"
)

// types returns the first error of the types, and its node.
func (v view) types() (int, api.Errno) {
	l := looks{}
	l.at(view.latticeError, api.LatticeItem)
	l.at(view.levelsError, shapes()...)
	l.at(view.usedError, api.PutStmt, api.WhenStmt, api.EachStmt, api.FreezeStmt)
	l.at(view.keysError, api.EachStmt)
	l.at(view.pointError, points()...)
	l.at(view.spawnError, api.SpawnStmt)
	l.at(view.handedError, exprs()...)
	l.at(view.nameError, api.NameNode)
	l.at(view.sizeError, api.SizeNode, api.HasNode)
	l.at(view.valueError, api.ValueNode)
	return v.first(l)
}

// kindOf returns the kind of the type that a declaration declares.
func (v view) kindOf(decl int) uint8 {
	switch v.Nodes[decl].Kind {
	case api.NewStmt:
		return api.TypeOwn
	case api.ShareStmt:
		return api.TypeShared
	case api.ParamNode:
		if !v.is(decl+1, api.IntType) {
			return api.TypeShared
		}
	case api.BindNode:
		if v.is(v.ups[decl], api.FreezeStmt) {
			return api.TypeFrozen
		}
	}
	return api.TypeInt
}

// typeOf returns the type that a declaration declares.
func (v view) typeOf(decl int) api.Type {
	t := api.Type{Kind: v.kindOf(decl)}
	if shape := v.shapeOf(decl); shape >= 0 {
		t.Shape = v.shape(shape)
	}
	return t
}

// shapeOf returns the node of the shape that a declaration declares, or -1 if it declares an integer.
func (v view) shapeOf(decl int) int {
	switch v.kindOf(decl) {
	case api.TypeOwn, api.TypeShared:
		return decl + 1
	case api.TypeFrozen:
		if variable := v.means[v.ups[decl]]; variable >= 0 {
			return v.shapeOf(variable)
		}
	}
	return -1
}

// isVariable tells whether a declaration declares a variable.
func (v view) isVariable(decl int) bool {
	kind := v.kindOf(decl)
	return kind == api.TypeOwn || kind == api.TypeShared
}

// shape returns the shape that a node is.
func (v view) shape(node int) api.Shape {
	kinds := map[uint8]uint8{api.FlagType: api.ShapeFlag, api.MaxType: api.ShapeMax, api.SetType: api.ShapeSet, api.OnceType: api.ShapeOnce, api.NamedType: api.ShapeNamed, api.MapType: api.ShapeMap, api.PairType: api.ShapePair}
	s := api.Shape{Kind: kinds[v.Nodes[node].Kind], Name: v.Nodes[node].Text}
	for kid := range v.kids(node) {
		s.Kids = append(s.Kids, v.shape(kid))
	}
	return s
}

// table returns the table of a LatticeItem.
func (v view) table(item int) api.Table {
	t := api.Table{Name: v.Nodes[item].Text}
	for elem := range v.kids(item) {
		var above []int
		for kid := range v.kids(elem) {
			above = append(above, v.number(v.means[kid]))
		}
		slices.Sort(above)
		t.Elems = append(t.Elems, v.Nodes[elem].Text)
		t.Above = append(t.Above, slices.Compact(above))
		t.Wrong = append(t.Wrong, v.Nodes[elem].N == 1)
	}
	return t
}

// tables returns the tables of a module.
func (v view) tables() []api.Table {
	var out []api.Table
	for item := range v.below(0, api.LatticeItem) {
		out = append(out, v.table(item))
	}
	return out
}

// latticeError is of a LatticeItem that is one too many, or whose table is no lattice.
func (v view) latticeError(node int) api.Errno {
	before := 0
	for range v.among(0, node, api.LatticeItem) {
		before++
	}
	if before >= api.MaxTables {
		return api.ErrLimit
	}
	_, e := order.Prove(v.table(node))
	return errorIf(e != api.OK, api.ErrFalse)
}

// levelsError is of a shape that is in no other one, and has too many levels.
func (v view) levelsError(node int) api.Errno {
	return errorIf(!v.is(v.ups[node], shapes()...) && v.levelsOf(node) > api.MaxLevels, api.ErrLimit)
}

// levelsOf returns how many levels a shape has.
func (v view) levelsOf(shape int) int {
	most := 0
	for kid := range v.kids(shape) {
		most = max(most, v.levelsOf(kid))
	}
	return most + 1
}

// usedError is of a statement that means no variable.
func (v view) usedError(node int) api.Errno {
	return errorIf(!v.isVariable(v.means[node]), api.ErrType)
}

// keysError is of an EachStmt whose variable has no keys.
func (v view) keysError(node int) api.Errno {
	return errorIf(!v.is(v.shapeOf(v.means[node]), api.SetType, api.MapType), api.ErrType)
}

// params returns the nodes of the types of the parameters of an item.
func (v view) params(item int) []int {
	var out []int
	for kid := range v.kids(item) {
		switch v.Nodes[kid].Kind {
		case api.ParamNode:
			out = append(out, kid+1)
		case api.BlockNode:
		default:
			out = append(out, kid)
		}
	}
	return out
}

// spawnError is of a SpawnStmt that has not as many kids as the item has parameters.
func (v view) spawnError(node int) api.Errno {
	return errorIf(len(slices.Collect(v.kids(node))) != len(v.params(v.means[node])), api.ErrType)
}

// variableFor returns the node of the shape of the parameter that an expr stands for, or -1 if it stands for no variable.
func (v view) variableFor(node int) int {
	if !v.is(v.ups[node], api.SpawnStmt) {
		return -1
	}
	param := v.params(v.means[v.ups[node]])[v.number(node)]
	if v.is(param, api.IntType) {
		return -1
	}
	return param
}

// handedError is of an expr that stands for a variable, and is none of its shape.
func (v view) handedError(node int) api.Errno {
	shape := v.variableFor(node)
	if shape < 0 {
		return api.OK
	}
	fits := v.is(node, api.NameNode) && v.isVariable(v.means[node]) && v.areSame(shape, v.shapeOf(v.means[node]))
	return errorIf(!fits, api.ErrType)
}

// areSame tells whether two nodes are the same shape.
func (v view) areSame(a, b int) bool {
	same := func(x, y api.TreeNode) bool { return x.Kind == y.Kind && x.Text == y.Text }
	return slices.EqualFunc(v.Nodes[a:v.end(a)], v.Nodes[b:v.end(b)], same)
}

// nameError is of a NameNode that means no integer, and does not stand for a variable.
func (v view) nameError(node int) api.Errno {
	return errorIf(v.variableFor(node) < 0 && v.kindOf(v.means[node]) != api.TypeInt, api.ErrType)
}

func (v view) sizeError(node int) api.Errno { return v.frozenError(node, api.SetType, api.MapType) }

func (v view) valueError(node int) api.Errno {
	return v.frozenError(node, api.MaxType, api.OnceType)
}

// frozenError is of a node that means nothing frozen with a shape of some kinds.
func (v view) frozenError(node int, kinds ...uint8) api.Errno {
	decl := v.means[node]
	return errorIf(v.kindOf(decl) != api.TypeFrozen || !v.is(v.shapeOf(decl), kinds...), api.ErrType)
}
