package check

import (
	"iter"
	"slices"

	"dripstone/api"
)

// view is a tree that has its form, with where each of its nodes lies, and what it means.
type view struct {
	api.Tree
	ups    []int // the node whose kid it is, -1 of the ProgramNode
	items  []int // the item that it is, or in which it lies, -1 of the ProgramNode
	levels []int // the EachStmt to whose level it belongs, -1 if it belongs to that of its TaskItem, or of none
	pools  []int // its innermost pool, -1 if it has none
	means  []int // the node that it means, -1 if it means nothing
}

// viewOf returns the view of a tree.
func viewOf(t api.Tree) view {
	nothing := func() []int { return slices.Repeat([]int{-1}, len(t.Nodes)) }
	v := view{Tree: t, ups: nothing(), items: nothing(), levels: nothing(), pools: nothing(), means: nothing()}
	for node := range v.Nodes {
		for kid := range v.kids(node) {
			v.place(kid, node)
		}
	}
	// A NamePoint is found by what the nodes before it mean.
	find := meanings()
	for node, n := range v.Nodes {
		if f, ok := find[n.Kind]; ok {
			v.means[node] = f(v, node)
		}
	}
	return v
}

// place notes where a kid of a node lies that has been placed itself.
func (v view) place(kid, up int) {
	v.ups[kid], v.items[kid], v.levels[kid], v.pools[kid] = up, v.items[up], v.levels[up], v.pools[up]
	switch {
	case up == 0:
		v.items[kid] = kid
	case v.is(up, api.BlockNode) && v.is(v.ups[up], api.EachStmt):
		v.levels[kid], v.pools[kid] = v.ups[up], -1
	case v.is(up, api.BlockNode) && v.is(v.ups[up], api.AllStmt):
		v.pools[kid] = v.ups[up]
	}
}

// is tells whether a node is of one of some kinds.
func (v view) is(node int, kinds ...uint8) bool {
	return slices.Contains(kinds, v.Nodes[node].Kind)
}

// end returns the number of the node behind a node and all those below it.
func (v view) end(node int) int { return node + v.Nodes[node].Size }

// kids yields the kids of a node.
func (v view) kids(node int) iter.Seq[int] {
	return func(yield func(int) bool) {
		for kid := node + 1; kid < v.end(node); kid = v.end(kid) {
			if !yield(kid) {
				return
			}
		}
	}
}

// number returns which kid of the node above it a node is.
func (v view) number(node int) int {
	n := 0
	for kid := range v.kids(v.ups[node]) {
		if kid < node {
			n++
		}
	}
	return n
}

// block returns the last kid of a node: its block, if it has one alone.
func (v view) block(node int) int {
	last := node
	for kid := range v.kids(node) {
		last = kid
	}
	return last
}

// among yields the nodes of some kinds from a number on, up to another one.
func (v view) among(from, to int, kinds ...uint8) iter.Seq[int] {
	return func(yield func(int) bool) {
		for node := from; node < to; node++ {
			if v.is(node, kinds...) && !yield(node) {
				return
			}
		}
	}
}

// below yields the nodes of some kinds below a node.
func (v view) below(node int, kinds ...uint8) iter.Seq[int] {
	return v.among(node+1, v.end(node), kinds...)
}

// poolsOf yields the pools of a node, the innermost one first.
func (v view) poolsOf(node int) iter.Seq[int] {
	return func(yield func(int) bool) {
		for pool := v.pools[node]; pool >= 0; pool = v.pools[pool] {
			if !yield(pool) {
				return
			}
		}
	}
}

// sites yields the sites of a TaskItem.
func (v view) sites(item int) iter.Seq[int] {
	return v.below(item, api.NewStmt, api.ShareStmt, api.SpawnStmt, api.WhenStmt, api.EachStmt, api.AllStmt, api.FreezeStmt)
}

// notes returns what is found out of each node.
func (v view) notes() api.Notes {
	n := api.Notes{Means: v.means, Types: make([]api.Type, len(v.Nodes)), Sites: slices.Repeat([]int{-1}, len(v.Nodes)), Pools: make([]int, len(v.Nodes))}
	for item := range v.kids(0) {
		for decl := range v.declarations(item) {
			n.Types[decl] = v.typeOf(decl)
		}
		site := 0
		for node := range v.sites(item) {
			n.Sites[node] = site
			site++
		}
	}
	for node := range v.Nodes {
		for range v.poolsOf(node) {
			n.Pools[node]++
		}
	}
	return n
}

// program returns the error of a module that is no program, and at which node it is.
func (v view) program() (int, api.Errno) {
	main := v.named(0, "main", api.TaskItem)
	if main < 0 {
		return 0, api.ErrNone
	}
	for param := range v.below(main, api.ParamNode) {
		if v.kindOf(param) != api.TypeInt {
			return param, api.ErrType
		}
	}
	for use := range v.below(0, api.UseItem) {
		return use, api.ErrState
	}
	return 0, api.OK
}
