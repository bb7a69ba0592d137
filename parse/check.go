package parse

import (
	"slices"

	"dripstone/api"
	"dripstone/lex"
)

// Check returns the error of a tree.
func Check(t api.Tree) api.Errno {
	if len(t.Nodes) > api.MaxNodes {
		return api.ErrLimit
	}
	deep, ok := depth(t)
	if !ok || !isFormed(t) {
		return api.ErrForm
	}
	if deep > api.MaxDeep {
		return api.ErrLimit
	}
	return api.OK
}

// checkNode returns the error of a tree, or that it has no node with a number.
func checkNode(t api.Tree, node int) api.Errno {
	if e := Check(t); e != api.OK {
		return e
	}
	if node < 0 || node >= len(t.Nodes) {
		return api.ErrNone
	}
	return api.OK
}

// depth returns how many nodes of a tree are one in the other at most; it is false if the nodes do not lie in each other as their Sizes say.
func depth(t api.Tree) (int, bool) {
	if len(t.Nodes) == 0 || t.Nodes[0].Size != len(t.Nodes) {
		return 0, false
	}
	most := 0
	ends := []int{len(t.Nodes)} // of the tree, and of the nodes in which the next one lies
	for i, n := range t.Nodes {
		for ends[len(ends)-1] == i {
			ends = ends[:len(ends)-1]
		}
		if n.Size < 1 || n.Size > ends[len(ends)-1]-i {
			return 0, false
		}
		most = max(most, len(ends))
		ends = append(ends, i+n.Size)
	}
	return most, true
}

// isTooGreat tells whether a tree that was read has too many nodes, or is too deep.
func isTooGreat(t api.Tree) bool {
	deep, _ := depth(t)
	return len(t.Nodes) > api.MaxNodes || deep > api.MaxDeep
}

// isFormed tells whether the form of a tree is right whose Sizes are so.
func isFormed(t api.Tree) bool {
	if t.Nodes[0].Kind != api.ProgramNode {
		return false
	}
	for i, n := range t.Nodes {
		x := ruleOf(n)
		if n.At < 0 || n.At > api.MaxText || n.N < x.low || n.N > x.high || !x.fits(t, i) {
			return false
		}
	}
	return isNamed(t)
}

// isNamed tells whether each node of a tree that must have a Text has a name, and no other one has a Text.
func isNamed(t api.Tree) bool {
	var names []api.Lexeme
	for _, n := range t.Nodes {
		if ruleOf(n).named {
			names = append(names, api.Lexeme{Kind: api.NameToken, Text: n.Text})
		} else if n.Text != "" {
			return false
		}
	}
	// ErrForm is of the tokens; it does not matter here how long they are together.
	_, e := lex.Join(names)
	return e != api.ErrForm
}

// fits tells whether the kids of a node are as a rule says.
func (x rule) fits(t api.Tree, node int) bool {
	l := kids(t, node)
	for _, p := range x.parts {
		other := func(kid int) bool { return !p.has(t.Nodes[kid].Kind) }
		n := slices.IndexFunc(l, other)
		if n < 0 {
			n = len(l)
		}
		if n < p.least || n > p.most {
			return false
		}
		l = l[n:]
	}
	return len(l) == 0
}

// hasSizes tells whether a tree that was read has the sizes, which are all of its form that can be wrong; if it is false, with the place of the first node that has too much.
func hasSizes(t api.Tree) (int, bool) {
	for i, n := range t.Nodes {
		if !ruleOf(n).fits(t, i) {
			return n.At, false
		}
	}
	return 0, true
}
