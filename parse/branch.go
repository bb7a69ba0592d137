package parse

import (
	"iter"

	"dripstone/api"
)

// branch is a node with the stretch of the text that was read for it, and with its kids.
type branch struct {
	api.TreeNode
	span api.Stretch
	kids []branch
}

// grown returns a branch of a node that has its Size by its kids.
func grown(n api.TreeNode, span api.Stretch, kids []branch) branch {
	n.Size = 1
	for _, k := range kids {
		n.Size += k.Size
	}
	return branch{TreeNode: n, span: span, kids: kids}
}

// program returns the branch of the ProgramNode.
func program(items []branch) branch {
	var span api.Stretch
	if len(items) > 0 {
		span = api.Stretch{From: items[0].span.From, To: items[len(items)-1].span.To}
	}
	return grown(api.TreeNode{Kind: api.ProgramNode}, span, items)
}

// all yields a branch and all those in it, each before its kids.
func (b branch) all() iter.Seq[branch] {
	return func(yield func(branch) bool) { b.visit(yield) }
}

// visit yields a branch and all those in it; it is false if no more are wanted.
func (b branch) visit(yield func(branch) bool) bool {
	if !yield(b) {
		return false
	}
	for _, k := range b.kids {
		if !k.visit(yield) {
			return false
		}
	}
	return true
}

// tree returns the tree whose node 0 is that of a branch.
func (b branch) tree() api.Tree {
	var t api.Tree
	for x := range b.all() {
		t.Nodes = append(t.Nodes, x.TreeNode)
	}
	return t
}
