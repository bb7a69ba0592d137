package tell

import (
	"iter"
	"slices"

	"dripstone/api"
	"dripstone/check"
)

// program is a program with what is found out of it.
type program struct {
	api.Tree
	api.Notes
	tables []api.Table
	ups    []int // the node whose kid it is, -1 of the ProgramNode
}

// programOf returns the program that a tree is, or why it is none.
func programOf(t api.Tree) (program, api.Errno) {
	if _, e := check.Program(t); e != api.OK {
		return program{}, e
	}
	notes, _ := check.Look(t)
	tables, _ := check.Tables(t)
	p := program{Tree: t, Notes: notes, tables: tables, ups: slices.Repeat([]int{-1}, len(t.Nodes))}
	for node := range p.Nodes {
		for kid := range p.kids(node) {
			p.ups[kid] = node
		}
	}
	return p, api.OK
}

// is tells whether a node is of one of some kinds.
func (p *program) is(node int, kinds ...uint8) bool {
	return slices.Contains(kinds, p.Nodes[node].Kind)
}

// end returns the number of the node behind a node and all those below it.
func (p *program) end(node int) int { return node + p.Nodes[node].Size }

// kids yields the kids of a node.
func (p *program) kids(node int) iter.Seq[int] {
	return func(yield func(int) bool) {
		for kid := node + 1; kid < p.end(node); kid = p.end(kid) {
			if !yield(kid) {
				return
			}
		}
	}
}

// kidsOf returns the kids of a node that are of one of some kinds.
func (p *program) kidsOf(node int, kinds ...uint8) []int {
	var out []int
	for kid := range p.kids(node) {
		if p.is(kid, kinds...) {
			out = append(out, kid)
		}
	}
	return out
}

// params returns the params of a TaskItem.
func (p *program) params(item int) []int { return p.kidsOf(item, api.ParamNode) }

// block returns the block of a TaskItem, an EachStmt or a CaseNode.
func (p *program) block(node int) int { return p.kidsOf(node, api.BlockNode)[0] }

// main returns the TaskItem with which an execution begins.
func (p *program) main() int {
	items := p.kidsOf(0, api.TaskItem)
	i := slices.IndexFunc(items, func(item int) bool { return p.Nodes[item].Text == "main" })
	return items[i]
}

// inputError is of inputs that main cannot have.
func (p *program) inputError(in []int) api.Errno {
	if len(in) != len(p.params(p.main())) {
		return api.ErrArg
	}
	if slices.ContainsFunc(in, isTooFar) {
		return api.ErrRange
	}
	return api.OK
}

// isTooFar tells whether a number is no integer of a program.
func isTooFar(n int) bool { return n < -api.MaxNumber || n > api.MaxNumber }

// named returns the tables that a shape names: whatever is asked of its elements would take longer with all of them.
func (p *program) named(s api.Shape) []api.Table {
	var out []api.Table
	for _, table := range p.tables {
		if isOf(s, table.Name) {
			out = append(out, table)
		}
	}
	return out
}

// isOf tells whether a shape, or one in it, is that of a table.
func isOf(s api.Shape, table string) bool {
	isIn := func(kid api.Shape) bool { return isOf(kid, table) }
	return s.Kind == api.ShapeNamed && s.Name == table || slices.ContainsFunc(s.Kids, isIn)
}
