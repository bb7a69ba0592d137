package check

import (
	"iter"
	"slices"

	"dripstone/api"
	"dripstone/elem"
)

// growth returns the first error of the growth, and its node.
func (v view) growth() (int, api.Errno) {
	l := looks{}
	l.at(view.closedError, api.EachStmt, api.FreezeStmt)
	l.at(view.handsError, api.NameNode)
	l.at(view.frozenBefore, api.PutStmt, api.WhenStmt, api.EachStmt, api.FreezeStmt, api.NameNode)
	l.at(view.caseError, api.CaseNode)
	return v.first(l)
}

// isOwn tells whether a declaration is that of a variable that is own at a node.
func (v view) isOwn(decl, node int) bool {
	return v.is(decl, api.NewStmt) && v.levels[decl] == v.levels[node]
}

// closedError is of an EachStmt or FreezeStmt while there may be somebody who has its variable and is not known.
func (v view) closedError(node int) api.Errno {
	if !v.isOwn(v.means[node], node) || v.is(node, api.EachStmt) && v.pools[node] < 0 {
		return api.ErrState
	}
	open := slices.Collect(v.poolsOf(node))
	if v.is(node, api.EachStmt) {
		// What is spawned in its own pool has ended when this is quiet.
		open = open[1:]
	}
	for stmt := range v.passes(node) {
		if slices.Contains(open, v.pools[stmt]) {
			return api.ErrState
		}
	}
	return api.OK
}

// passes yields the statements that pass on the variable of an EachStmt or FreezeStmt, before it and of its level.
func (v view) passes(node int) iter.Seq[int] {
	return func(yield func(int) bool) {
		for stmt := range v.among(v.items[node], node, api.SpawnStmt, api.EachStmt) {
			if v.levels[stmt] == v.levels[node] && v.passesOn(stmt, v.means[node]) && !yield(stmt) {
				return
			}
		}
	}
}

// passesOn tells whether a SpawnStmt or an EachStmt passes on a variable that is own there.
func (v view) passesOn(stmt, variable int) bool {
	if v.is(stmt, api.EachStmt) {
		return v.means[stmt] == variable || slices.Contains(v.captures(stmt), variable)
	}
	isIt := func(kid int) bool { return v.means[kid] == variable }
	return slices.ContainsFunc(slices.Collect(v.kids(stmt)), isIt)
}

// captures returns the declarations outside of an EachStmt that nodes in its block mean, ascending.
func (v view) captures(each int) []int {
	var out []int
	for decl := range v.declarations(v.items[each]) {
		isOutside := decl < each || decl >= v.end(each)
		if isOutside && slices.Contains(v.means[v.block(each)+1:v.end(each)], decl) {
			out = append(out, decl)
		}
	}
	return out
}

// handsError is of a NameNode that hands over an own variable outside of pools.
func (v view) handsError(node int) api.Errno {
	hands := v.is(v.ups[node], api.SpawnStmt) && v.isOwn(v.means[node], node)
	return errorIf(hands && v.pools[node] < 0, api.ErrState)
}

// frozenBefore is the error of a node that means a variable behind a FreezeStmt of it.
func (v view) frozenBefore(node int) api.Errno {
	for freeze := range v.among(v.items[node], node, api.FreezeStmt) {
		if v.means[freeze] == v.means[node] {
			return api.ErrState
		}
	}
	return api.OK
}

// caseError is of a CaseNode whose point is wrong, or that could go on at the same time as an earlier one.
func (v view) caseError(node int) api.Errno {
	when := v.ups[node]
	l := v.pointsOf(when)
	if len(l) > 1 && !v.isConstant(node+1) {
		return api.ErrFalse
	}
	lattice := api.Lattice{Tables: v.tables(), Shape: v.shape(v.shapeOf(v.means[when]))}
	own := v.elem(node + 1)
	if wrong, _ := elem.IsWrong(lattice, own); wrong {
		return api.ErrFalse
	}
	for _, point := range l[:v.number(node)] {
		if excludes, _ := elem.Excludes(lattice, v.elem(point), own); !excludes {
			return api.ErrFalse
		}
	}
	return api.OK
}
