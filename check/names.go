package check

import (
	"iter"

	"dripstone/api"
)

// names returns the first error of the names, and its node.
func (v view) names() (int, api.Errno) {
	l := looks{}
	l.at(view.latticeTwice, api.LatticeItem)
	l.at(view.taskTwice, api.UseItem, api.TaskItem)
	l.at(view.elemTwice, api.ElemNode)
	l.at(view.declaredTwice, declaring()...)
	for kind := range meanings() {
		// What a NamePoint names is found by its shape, so it is no name that means nothing, but a point that does not fit.
		if kind != api.NamePoint {
			l.at(view.meansNothing, kind)
		}
	}
	return v.first(l)
}

func (v view) latticeTwice(node int) api.Errno { return v.twice(node, 0, api.LatticeItem) }

func (v view) taskTwice(node int) api.Errno { return v.twice(node, 0, api.UseItem, api.TaskItem) }

func (v view) elemTwice(node int) api.Errno { return v.twice(node, v.items[node], api.ElemNode) }

func (v view) declaredTwice(node int) api.Errno {
	return v.twice(node, v.items[node], declaring()...)
}

func (v view) meansNothing(node int) api.Errno { return errorIf(v.means[node] < 0, api.ErrName) }

// twice returns ErrTwice if a node of some kinds, from a number on, stands before a node and has its Text.
func (v view) twice(node, from int, kinds ...uint8) api.Errno {
	for other := range v.among(from, node, kinds...) {
		if v.Nodes[other].Text == v.Nodes[node].Text {
			return api.ErrTwice
		}
	}
	return api.OK
}

// meanings returns how it is found what a node means, by its kind.
func meanings() map[uint8]func(v view, node int) int {
	return map[uint8]func(v view, node int) int{
		api.PutStmt:    view.declaration,
		api.WhenStmt:   view.declaration,
		api.EachStmt:   view.declaration,
		api.FreezeStmt: view.declaration,
		api.NameNode:   view.declaration,
		api.SizeNode:   view.declaration,
		api.HasNode:    view.declaration,
		api.ValueNode:  view.declaration,
		api.SpawnStmt:  view.task,
		api.NamedType:  view.lattice,
		api.AboveNode:  view.above,
		api.NamePoint:  view.pointed,
	}
}

// declaration returns the declaration in sight that has the Text of a node.
func (v view) declaration(node int) int {
	for decl := range v.sight(node) {
		if v.Nodes[decl].Text == v.Nodes[node].Text {
			return decl
		}
	}
	return -1
}

// task returns the item that a SpawnStmt means.
func (v view) task(node int) int {
	return v.named(0, v.Nodes[node].Text, api.UseItem, api.TaskItem)
}

// lattice returns the LatticeItem that a NamedType means.
func (v view) lattice(node int) int { return v.named(0, v.Nodes[node].Text, api.LatticeItem) }

// above returns the ElemNode that an AboveNode means.
func (v view) above(node int) int {
	return v.named(v.items[node], v.Nodes[node].Text, api.ElemNode)
}

// pointed returns the ElemNode that a NamePoint means: none that is the bottom.
func (v view) pointed(node int) int {
	shape := v.shapeFor(node)
	if shape < 0 || !v.is(shape, api.NamedType) || v.means[shape] < 0 {
		return -1
	}
	bottom := v.means[shape] + 1
	if v.Nodes[bottom].Text == v.Nodes[node].Text {
		return -1
	}
	return v.named(v.means[shape], v.Nodes[node].Text, api.ElemNode)
}

// named returns the first kid of a node that is of one of some kinds and has a Text, or -1.
func (v view) named(node int, text string, kinds ...uint8) int {
	for kid := range v.kids(node) {
		if v.is(kid, kinds...) && v.Nodes[kid].Text == text {
			return kid
		}
	}
	return -1
}

// declarations yields the declarations of an item.
func (v view) declarations(item int) iter.Seq[int] { return v.below(item, declaring()...) }

// sight yields the declarations that are in sight at a node of an item.
func (v view) sight(node int) iter.Seq[int] {
	return func(yield func(int) bool) {
		for decl := range v.declarations(v.items[node]) {
			from, to := v.scope(decl)
			if from <= node && node < to && !yield(decl) {
				return
			}
		}
	}
}

// scope returns the first one of the nodes at which a declaration is in sight, and the one behind the last one.
func (v view) scope(decl int) (int, int) {
	owner := decl
	if v.is(decl, api.ParamNode, api.BindNode) {
		owner = v.ups[decl]
	}
	if v.is(owner, api.TaskItem, api.EachStmt) {
		block := v.block(owner)
		return block + 1, v.end(block)
	}
	return v.end(owner), v.end(v.ups[owner])
}
