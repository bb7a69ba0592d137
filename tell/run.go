package tell

import (
	"maps"
	"slices"

	"dripstone/api"
	"dripstone/elem"
)

// execution is a program on its way, with all that happened.
type execution struct {
	program
	deeds    map[uint8]func(*execution, *task) api.Errno
	tasks    []*task
	vars     []*variable
	pools    []*pool
	lookouts []lookout
	events   []api.Event
	fails    []int
	steps    int
}

// task is a task on its way.
type task struct {
	api.Actor
	work
	number int
	names  map[int]meaning // by their declarations
	in     int             // the innermost pool of which it is a member, or -1
	pool   int             // the innermost pool that is open where it is, or -1
	at     int             // its next statement (an AllStmt at the end of the block of this), or 0 if it has ended or failed
}

// work is what the exprs of a statement come to.
type work struct {
	ints  []int
	elems []api.Elem
	fault int // the node at which one failed, or 0
	fails int // the number with which it did
	holds int // of a WhenStmt the case whose element the variable has reached, or -1
}

// variable is a variable of an execution, with the tables that its shape names.
type variable struct {
	api.VarState
	tables []api.Table
}

// pool is a pool that began.
type pool struct {
	up       int // the innermost one in which it is, or -1
	live     int // how many members have neither ended nor failed
	isClosed bool
}

// lookout is a look-out that began.
type lookout struct {
	of       *task
	each     int
	variable int
	pool     int
}

// begun returns the execution of a program before its first step, or why there is none.
func begun(t api.Tree, in []int) (*execution, api.Errno) {
	p, e := programOf(t)
	if e != api.OK {
		return nil, e
	}
	if e := p.inputError(in); e != api.OK {
		return nil, e
	}
	x := &execution{program: p, deeds: deeds()}
	main := p.main()
	return x, x.begin(main, nil, x.given(main, in), -1)
}

// given returns what the params of a TaskItem stand for, if they are given some integers and variables.
func (x *execution) given(item int, values []int) map[int]meaning {
	names := map[int]meaning{}
	for i, param := range x.params(item) {
		names[param] = meaning{n: values[i]}
	}
	return names
}

// run has tasks go on until none can, or so many steps are done that the next one is too many.
func (x *execution) run(picks []int, most int) api.Errno {
	for i := 0; ; i++ {
		able := slices.DeleteFunc(slices.Clone(x.tasks), x.stands)
		if len(able) == 0 {
			return api.OK
		}
		t := able[0]
		if i < len(picks) {
			t = able[picks[i]%len(able)]
		}
		if x.steps == most && t.fault == 0 {
			return api.OK
		}
		if e := x.goOn(t); e != api.OK {
			return e
		}
	}
}

// stands tells whether a task cannot go on.
func (x *execution) stands(t *task) bool {
	switch {
	case t.at == 0:
		return true
	case x.is(t.at, api.AllStmt):
		return x.pools[t.pool].live > 0
	}
	return x.is(t.at, api.WhenStmt) && t.fault == 0 && t.holds < 0
}

// goOn has a task do its next statement.
func (x *execution) goOn(t *task) api.Errno {
	if t.fault != 0 {
		x.fail(t, t.fault, t.fails)
		return api.OK
	}
	if x.steps == api.MaxSteps {
		return api.ErrLimit
	}
	x.steps++
	return x.deeds[x.Nodes[t.at].Kind](x, t)
}

// begin has a task begin that was spawned by the last event, in a pool.
func (x *execution) begin(home int, path []api.Hop, names map[int]meaning, in int) api.Errno {
	if len(x.tasks) == api.MaxTasks {
		return api.ErrLimit
	}
	t := &task{
		Actor:  api.Actor{Path: path, Node: home, By: len(x.events) - 1},
		number: len(x.tasks),
		names:  names,
		in:     in,
		pool:   in,
	}
	x.tasks = append(x.tasks, t)
	x.count(t, 1)
	x.enter(t, x.block(home))
	return api.OK
}

// count has the pools of which a task is a member have more live ones, or fewer.
func (x *execution) count(t *task, more int) {
	for in := t.in; in >= 0; in = x.pools[in].up {
		x.pools[in].live += more
	}
}

// enter has a task come to a block.
func (x *execution) enter(t *task, block int) { x.come(t, block+1, block) }

// leave has a task go on behind a statement.
func (x *execution) leave(t *task, stmt int) { x.come(t, x.end(stmt), x.ups[stmt]) }

// come has a task come to a statement of a block, or to its end.
func (x *execution) come(t *task, node, block int) {
	if node < x.end(block) {
		if x.is(node, api.AllStmt) {
			x.pools = append(x.pools, &pool{up: t.pool})
			t.pool = len(x.pools) - 1
			x.enter(t, node+1)
			return
		}
		t.at = node
		t.work = x.worked(t)
		return
	}
	switch owner := x.ups[block]; x.Nodes[owner].Kind {
	case api.IfStmt:
		x.leave(t, owner)
	case api.CaseNode:
		x.leave(t, x.ups[owner])
	case api.AllStmt:
		t.at = owner
	default:
		x.stop(t, api.Event{Kind: api.EventEnd, Task: t.number, Node: t.Node})
	}
}

// stop has a task end or fail.
func (x *execution) stop(t *task, by api.Event) {
	x.events = append(x.events, by)
	x.count(t, -1)
	t.at = 0
}

// fail has a task fail at a node.
func (x *execution) fail(t *task, node, n int) {
	x.fails = append(x.fails, n)
	x.stop(t, api.Event{Kind: api.EventFail, Task: t.number, Node: node, N: n})
}

// worked returns what the exprs of the statement come to at which a task is.
func (x *execution) worked(t *task) work {
	r := reckoner{program: &x.program, names: t.names}
	w := work{}
	switch x.Nodes[t.at].Kind {
	case api.LetStmt, api.IfStmt, api.FailStmt:
		w.ints = r.integers(t.at + 1)
	case api.SpawnStmt:
		w.ints = r.integers(slices.Collect(x.kids(t.at))...)
	case api.PutStmt:
		e := r.elem(t.at + 1)
		w.elems = []api.Elem{e}
	case api.WhenStmt:
		for kid := range x.kids(t.at) {
			e := r.elem(kid + 1)
			w.elems = append(w.elems, e)
		}
		w.holds = x.vars[r.meant(t.at).n].reached(w.elems)
	}
	if r.fault != 0 {
		w = work{fault: r.fault, fails: r.failure()}
	}
	return w
}

// reached returns the first one of the elements of some points that a variable has reached, or -1.
func (v *variable) reached(points []api.Elem) int { return slices.IndexFunc(points, v.isAbove) }

// isAbove tells whether the value of a variable is above the element of a point.
func (v *variable) isAbove(point api.Elem) bool {
	lattice, value := v.lattice(), v.E
	// A value can be large, a point cannot: what the value has at other keys than the point is not looked at.
	for point.Kind == api.ElemMap {
		i, is := slices.BinarySearch(value.Keys, point.Keys[0])
		if !is {
			return false
		}
		lattice.Shape, value, point = lattice.Shape.Kids[0], value.Kids[i], point.Kids[0]
	}
	is, _ := elem.Below(lattice, point, value)
	return is
}

// look has tasks begin for the keys of its variable that a look-out has not had.
func (x *execution) look(l lookout, had []int) api.Errno {
	for _, key := range x.vars[l.variable].E.Keys {
		if slices.Contains(had, key) {
			continue
		}
		x.events = append(x.events, api.Event{Kind: api.EventKey, Task: l.of.number, Node: l.each, Var: l.variable, N: key})
		names := maps.Clone(l.of.names)
		names[l.each+1] = meaning{n: key}
		if e := x.begin(l.each, l.of.hop(x.Sites[l.each], key), names, l.pool); e != api.OK {
			return e
		}
	}
	return api.OK
}

// hop returns the path of a task that another one spawns.
func (t *task) hop(site, piece int) []api.Hop {
	return slices.Concat(t.Path, []api.Hop{{Site: site, Piece: piece}})
}

func (v *variable) lattice() api.Lattice { return api.Lattice{Tables: v.tables, Shape: v.Shape} }
