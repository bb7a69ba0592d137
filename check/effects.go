package check

import (
	"slices"

	"dripstone/api"
)

// doer is a UseItem or a TaskItem, with what is known that it may do.
type doer struct {
	api.Effect
	item int
}

// effects returns what the UseItems and TaskItems may do.
func (v view) effects() []api.Effect {
	var l []doer
	for item := range v.kids(0) {
		if v.is(item, api.UseItem, api.TaskItem) {
			l = append(l, v.doer(item))
		}
	}
	for v.hand(l) {
	}
	var out []api.Effect
	for _, d := range l {
		out = append(out, d.Effect)
	}
	return out
}

// doer returns an item with what it may do itself.
func (v view) doer(item int) doer {
	all := v.is(item, api.UseItem)
	n := len(v.params(item))
	d := doer{item: item, Effect: api.Effect{Puts: slices.Repeat([]bool{all}, n), Waits: slices.Repeat([]bool{all}, n), Fails: all, Spawns: all}}
	for node := range v.below(item, append(stmts(), exprs()...)...) {
		switch v.Nodes[node].Kind {
		case api.PutStmt:
			v.mark(d.Puts, node)
		case api.WhenStmt:
			v.mark(d.Waits, node)
		case api.FailStmt, api.AddNode, api.SubNode, api.MulNode, api.DivNode:
			d.Fails = true
		case api.SpawnStmt, api.EachStmt:
			d.Spawns = true
		}
	}
	return d
}

// mark marks the parameter that a node means, if it means one; it tells whether it was not marked before.
func (v view) mark(marks []bool, node int) bool {
	decl := v.means[node]
	if decl < 0 || !v.is(decl, api.ParamNode) {
		return false
	}
	n := v.number(decl)
	was := marks[n]
	marks[n] = true
	return !was
}

// hand notes what tasks may do by those that they spawn, as far as this is known; it tells whether it is more than before.
func (v view) hand(l []doer) bool {
	more := false
	for i := range l {
		for spawn := range v.below(l[i].item, api.SpawnStmt) {
			isIt := func(d doer) bool { return d.item == v.means[spawn] }
			by := l[slices.IndexFunc(l, isIt)]
			if v.take(&l[i], by, spawn) {
				more = true
			}
		}
	}
	return more
}

// take notes what a task may do by one that a SpawnStmt in it spawns; it tells whether it is more than before.
func (v view) take(d *doer, by doer, spawn int) bool {
	more := by.Fails && !d.Fails
	d.Fails = d.Fails || by.Fails
	for kid := range v.kids(spawn) {
		n := v.number(kid)
		if by.Puts[n] && v.mark(d.Puts, kid) {
			more = true
		}
		if by.Waits[n] && v.mark(d.Waits, kid) {
			more = true
		}
	}
	return more
}
