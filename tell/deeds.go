package tell

import (
	"slices"

	"dripstone/api"
	"dripstone/elem"
)

// deeds returns how the statements of each kind are done, when their exprs are worked out.
func deeds() map[uint8]func(*execution, *task) api.Errno {
	return map[uint8]func(*execution, *task) api.Errno{
		api.NewStmt:    (*execution).declare,
		api.ShareStmt:  (*execution).declare,
		api.LetStmt:    (*execution).let,
		api.PutStmt:    (*execution).put,
		api.SpawnStmt:  (*execution).spawn,
		api.WhenStmt:   (*execution).wake,
		api.EachStmt:   (*execution).lookOut,
		api.AllStmt:    (*execution).closePool,
		api.FreezeStmt: (*execution).freeze,
		api.IfStmt:     (*execution).choose,
		api.FailStmt:   (*execution).giveUp,
	}
}

// happens notes an event of a task at its statement.
func (x *execution) happens(t *task, by api.Event) {
	by.Task, by.Node = t.number, t.at
	x.events = append(x.events, by)
}

// variableOf returns the number of the variable that the statement of a task means.
func (x *execution) variableOf(t *task) int { return t.names[x.Means[t.at]].n }

func (x *execution) declare(t *task) api.Errno {
	if len(x.vars) == api.MaxVars {
		return api.ErrLimit
	}
	number, shape := len(x.vars), x.Types[t.at].Shape
	state := api.VarState{Path: slices.Clone(t.Path), Site: x.Sites[t.at], Shape: copiedShape(shape)}
	x.vars = append(x.vars, &variable{VarState: state, tables: x.named(shape)})
	t.names[t.at] = meaning{n: number}
	x.happens(t, api.Event{Kind: api.EventMake, Var: number})
	x.leave(t, t.at)
	return api.OK
}

func (x *execution) let(t *task) api.Errno {
	t.names[t.at] = meaning{n: t.ints[0]}
	x.happens(t, api.Event{Kind: api.EventStep, N: t.ints[0]})
	x.leave(t, t.at)
	return api.OK
}

func (x *execution) put(t *task) api.Errno {
	number := x.variableOf(t)
	v, more := x.vars[number], t.elems[0]
	before := v.E
	after, e := elem.Join(v.lattice(), before, more)
	if e != api.OK {
		return e
	}
	if wrong, _ := elem.IsWrong(v.lattice(), after); wrong {
		return api.ErrFail
	}
	v.E = after
	x.happens(t, api.Event{Kind: api.EventJoin, Var: number, E: more})
	for _, l := range x.lookouts {
		if l.variable == number && !x.pools[l.pool].isClosed {
			if e := x.look(l, before.Keys); e != api.OK {
				return e
			}
		}
	}
	if !isSameElem(before, after) {
		x.rouse(number)
	}
	x.leave(t, t.at)
	return api.OK
}

// rouse has the tasks that wait for a variable find out whether it has become enough.
func (x *execution) rouse(number int) {
	for _, t := range x.tasks {
		if x.is(t.at, api.WhenStmt) && x.variableOf(t) == number && x.stands(t) {
			t.holds = x.vars[number].reached(t.elems)
		}
	}
}

func (x *execution) spawn(t *task) api.Errno {
	item := x.Means[t.at]
	x.happens(t, api.Event{Kind: api.EventSpawn, N: len(x.tasks)})
	if e := x.begin(item, t.hop(x.Sites[t.at], 0), x.given(item, t.ints), t.pool); e != api.OK {
		return e
	}
	x.leave(t, t.at)
	return api.OK
}

func (x *execution) wake(t *task) api.Errno {
	cases := x.kidsOf(t.at, api.CaseNode)
	x.happens(t, api.Event{Kind: api.EventWake, Var: x.variableOf(t), N: t.holds, E: t.elems[t.holds]})
	x.enter(t, x.block(cases[t.holds]))
	return api.OK
}

func (x *execution) lookOut(t *task) api.Errno {
	l := lookout{of: t, each: t.at, variable: x.variableOf(t), pool: t.pool}
	x.lookouts = append(x.lookouts, l)
	x.happens(t, api.Event{Kind: api.EventEach, Var: l.variable})
	if e := x.look(l, nil); e != api.OK {
		return e
	}
	x.leave(t, t.at)
	return api.OK
}

func (x *execution) closePool(t *task) api.Errno {
	closed := x.pools[t.pool]
	closed.isClosed = true
	t.pool = closed.up
	x.happens(t, api.Event{Kind: api.EventQuiet})
	x.leave(t, t.at)
	return api.OK
}

func (x *execution) freeze(t *task) api.Errno {
	number := x.variableOf(t)
	value := x.vars[number].E
	t.names[t.at+1] = meaning{e: value}
	x.happens(t, api.Event{Kind: api.EventRead, Var: number, E: copiedElem(value)})
	x.leave(t, t.at)
	return api.OK
}

func (x *execution) choose(t *task) api.Errno {
	n := t.ints[0]
	x.happens(t, api.Event{Kind: api.EventStep, N: n})
	blocks := x.kidsOf(t.at, api.BlockNode)
	switch {
	case n != 0:
		x.enter(t, blocks[0])
	case len(blocks) == 2:
		x.enter(t, blocks[1])
	default:
		x.leave(t, t.at)
	}
	return api.OK
}

func (x *execution) giveUp(t *task) api.Errno {
	x.fail(t, t.at, t.ints[0])
	return api.OK
}
