package parse

import (
	"iter"
	"slices"

	"dripstone/api"
)

// kids returns the kids of a node, ascending.
func kids(t api.Tree, node int) []int {
	var l []int
	end := node + t.Nodes[node].Size
	for i := node + 1; i < end; i += t.Nodes[i].Size {
		l = append(l, i)
	}
	return l
}

// above yields the nodes in which a node lies, from the inside out.
func above(t api.Tree, node int) iter.Seq[int] {
	return func(yield func(int) bool) {
		for i := range node {
			up := node - 1 - i
			if up+t.Nodes[up].Size > node && !yield(up) {
				return
			}
		}
	}
}

// Kids returns the kids of a node, ascending.
func Kids(t api.Tree, node int) ([]int, api.Errno) {
	if e := checkNode(t, node); e != api.OK {
		return nil, e
	}
	return kids(t, node), api.OK
}

// Up returns the node whose kid a node is, or -1.
func Up(t api.Tree, node int) (int, api.Errno) {
	if e := checkNode(t, node); e != api.OK {
		return 0, e
	}
	for up := range above(t, node) {
		return up, api.OK
	}
	return -1, api.OK
}

// Path returns the numbers of the kids with which the nodes above a node go on to it.
func Path(t api.Tree, node int) ([]int, api.Errno) {
	if e := checkNode(t, node); e != api.OK {
		return nil, e
	}
	var path []int
	for up := range above(t, node) {
		path = append(path, slices.Index(kids(t, up), node))
		node = up
	}
	slices.Reverse(path)
	return path, api.OK
}

// Node returns the node with a path.
func Node(t api.Tree, path []int) (int, api.Errno) {
	if e := Check(t); e != api.OK {
		return 0, e
	}
	node := 0
	for _, number := range path {
		l := kids(t, node)
		if number < 0 || number >= len(l) {
			return 0, api.ErrNone
		}
		node = l[number]
	}
	return node, api.OK
}

// Sub returns the nodes of a node, with all below it.
func Sub(t api.Tree, node int) ([]api.TreeNode, api.Errno) {
	if e := checkNode(t, node); e != api.OK {
		return nil, e
	}
	return slices.Clone(t.Nodes[node : node+t.Nodes[node].Size]), api.OK
}

// Splice returns the tree in which other nodes stand in the place of a node, with all below it.
func Splice(t api.Tree, node int, by []api.TreeNode) (api.Tree, api.Errno) {
	if e := checkNode(t, node); e != api.OK {
		return api.Tree{}, e
	}
	if len(by) > api.MaxNodes {
		return api.Tree{}, api.ErrLimit
	}
	size := t.Nodes[node].Size
	out := api.Tree{Nodes: slices.Concat(t.Nodes[:node], by, t.Nodes[node+size:])}
	for up := range above(t, node) {
		out.Nodes[up].Size += len(by) - size
	}
	if e := Check(out); e != api.OK {
		return api.Tree{}, e
	}
	return out, api.OK
}

// Same tells whether two trees are equal but for places.
func Same(a, b api.Tree) (bool, api.Errno) {
	if e := Check(a); e != api.OK {
		return false, e
	}
	if e := Check(b); e != api.OK {
		return false, e
	}
	return slices.EqualFunc(a.Nodes, b.Nodes, alike), api.OK
}

// alike tells whether two nodes are equal but for their places.
func alike(a, b api.TreeNode) bool {
	a.At, b.At = 0, 0
	return a == b
}
