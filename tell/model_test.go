package tell_test

import (
	"fmt"
	"iter"
	"slices"
	"strings"

	"dripstone/api"
	"dripstone/check"
	"dripstone/elem"
)

// world is a second writing of the chapter: a task is a coroutine that goes through its block, names are texts, points are read as texts, and who is a member, what is quiet and what was looked at is gone through each time.
type world struct {
	api.Tree
	notes  api.Notes
	tables []api.Table
	kids   [][]int
	actors []*actor
	vars   []api.VarState
	looks  []*watch
	events []api.Event
	fails  []int
	steps  int
}

// arena is a pool.
type arena struct{ isOver bool }

// watch is a look-out.
type watch struct {
	by       *actor
	each     int
	variable int
	arenas   []*arena
	had      []int
}

// actor is a task.
type actor struct {
	api.Actor
	number  int
	names   map[string]any
	member  []*arena // of which it is one
	own     []*arena // in whose blocks it is
	next    func() (ask, bool)
	stop    func()
	ask     ask
	hasDone bool // it has ended or failed
}

// ask is what a task does next.
type ask struct {
	node   int
	isStep bool
	can    func() bool
}

// fault is an expr that fails.
type fault struct{ node, n int }

// lived returns what there is when tasks have gone on by some picks, until nothing can be done or the next step is one too many.
func lived(t api.Tree, in []int, picks []int, most int) (w *world, e api.Errno) {
	w = &world{Tree: t}
	w.notes, _ = check.Look(t)
	w.tables, _ = check.Tables(t)
	w.kids = make([][]int, len(t.Nodes))
	for i, n := range t.Nodes {
		for kid := i + 1; kid < i+n.Size; kid += t.Nodes[kid].Size {
			w.kids[i] = append(w.kids[i], kid)
		}
	}
	defer func() {
		for _, a := range w.actors {
			a.stop()
		}
		if x := recover(); x != nil {
			e = x.(api.Errno)
		}
	}()
	for _, item := range w.kids[0] {
		if t.Nodes[item].Kind == api.TaskItem && t.Nodes[item].Text == "main" {
			names := map[string]any{}
			for i, n := range in {
				names[t.Nodes[w.kids[item][i]].Text] = n
			}
			w.spawned(&actor{Actor: api.Actor{Node: item, By: -1}, names: names})
		}
	}
	for i := 0; ; i++ {
		var able []*actor
		for _, a := range w.actors {
			if !a.hasDone && a.ask.can() {
				able = append(able, a)
			}
		}
		if len(able) == 0 {
			return w, api.OK
		}
		a := able[0]
		if i < len(picks) {
			a = able[picks[i]%len(able)]
		}
		if a.ask.isStep && w.steps == most {
			return w, api.OK
		}
		a.resume()
	}
}

// spawned has a task come.
func (w *world) spawned(a *actor) {
	if len(w.actors) == api.MaxTasks {
		panic(api.ErrLimit)
	}
	a.number = len(w.actors)
	w.actors = append(w.actors, a)
	a.next, a.stop = iter.Pull(w.life(a))
	a.resume()
}

func (a *actor) resume() {
	x, more := a.next()
	a.ask, a.hasDone = x, !more
}

// life is all that a task does.
func (w *world) life(a *actor) iter.Seq[ask] {
	return func(yield func(ask) bool) {
		defer func() {
			x := recover()
			if f, is := x.(fault); is {
				w.fails = append(w.fails, f.n)
				w.events = append(w.events, api.Event{Kind: api.EventFail, Task: a.number, Node: f.node, N: f.n})
			} else if x != nil && x != "stopped" {
				panic(x)
			}
		}()
		kids := w.kids[a.Node]
		w.block(a, kids[len(kids)-1], func(x ask) {
			if !yield(x) {
				panic("stopped")
			}
		})
		w.events = append(w.events, api.Event{Kind: api.EventEnd, Task: a.number, Node: a.Node})
	}
}

func always() bool { return true }

// block does the statements of a block.
func (w *world) block(a *actor, block int, yield func(ask)) {
	for _, stmt := range w.kids[block] {
		w.stmt(a, stmt, yield)
	}
}

// tried works something out before it can be done: if it fails, that is what is done.
func tried[T any](stmt int, yield func(ask), f func() T) T {
	defer func() {
		if x, is := recover().(fault); is {
			yield(ask{stmt, false, always})
			panic(x)
		}
	}()
	return f()
}

// step says that a statement can be done; when that comes back it is counted, and its event is there.
func (w *world) step(a *actor, stmt int, can func() bool, yield func(ask)) {
	yield(ask{stmt, true, can})
	if w.steps == api.MaxSteps {
		panic(api.ErrLimit)
	}
	w.steps++
}

func (w *world) happened(a *actor, node int, x api.Event) {
	x.Task, x.Node = a.number, node
	w.events = append(w.events, x)
}

// stmt does a statement.
func (w *world) stmt(a *actor, stmt int, yield func(ask)) {
	n, kids := w.Nodes[stmt], w.kids[stmt]
	switch n.Kind {
	case api.NewStmt, api.ShareStmt:
		w.step(a, stmt, always, yield)
		if len(w.vars) == api.MaxVars {
			panic(api.ErrLimit)
		}
		a.names[n.Text] = variable(len(w.vars))
		w.vars = append(w.vars, api.VarState{Path: a.Path, Site: w.notes.Sites[stmt], Shape: w.notes.Types[stmt].Shape})
		w.happened(a, stmt, api.Event{Kind: api.EventMake, Var: len(w.vars) - 1})
	case api.LetStmt:
		x := tried(stmt, yield, func() int { return w.expr(a, kids[0]) })
		w.step(a, stmt, always, yield)
		a.names[n.Text] = x
		w.happened(a, stmt, api.Event{Kind: api.EventStep, N: x})
	case api.PutStmt:
		v := int(a.names[n.Text].(variable))
		x := tried(stmt, yield, func() api.Elem { return w.point(a, kids[0], w.vars[v].Shape) })
		w.step(a, stmt, always, yield)
		w.put(a, stmt, v, x)
	case api.SpawnStmt:
		w.spawn(a, stmt, yield)
	case api.WhenStmt:
		w.when(a, stmt, yield)
	case api.EachStmt:
		w.step(a, stmt, always, yield)
		l := &watch{by: a, each: stmt, variable: int(a.names[n.Text].(variable)), arenas: slices.Concat(a.member, a.own)}
		w.looks = append(w.looks, l)
		w.happened(a, stmt, api.Event{Kind: api.EventEach, Var: l.variable})
		w.watched(l)
	case api.AllStmt:
		p := &arena{}
		a.own = append(slices.Clone(a.own), p)
		w.block(a, kids[0], yield)
		w.step(a, stmt, func() bool { return w.isQuiet(p) }, yield)
		p.isOver = true
		a.own = a.own[:len(a.own)-1]
		w.happened(a, stmt, api.Event{Kind: api.EventQuiet})
	case api.FreezeStmt:
		w.step(a, stmt, always, yield)
		v := int(a.names[n.Text].(variable))
		a.names[w.Nodes[kids[0]].Text] = w.vars[v].E
		w.happened(a, stmt, api.Event{Kind: api.EventRead, Var: v, E: w.vars[v].E})
	case api.IfStmt:
		x := tried(stmt, yield, func() int { return w.expr(a, kids[0]) })
		w.step(a, stmt, always, yield)
		w.happened(a, stmt, api.Event{Kind: api.EventStep, N: x})
		if x != 0 {
			w.block(a, kids[1], yield)
		} else if len(kids) > 2 {
			w.block(a, kids[2], yield)
		}
	case api.FailStmt:
		x := tried(stmt, yield, func() int { return w.expr(a, kids[0]) })
		w.step(a, stmt, always, yield)
		panic(fault{stmt, x})
	}
}

// variable is the number of a variable.
type variable int

func (w *world) lattice(v int) api.Lattice {
	return api.Lattice{Tables: w.tables, Shape: w.vars[v].Shape}
}

// put joins something into a variable.
func (w *world) put(a *actor, stmt, v int, x api.Elem) {
	join, e := elem.Join(w.lattice(v), w.vars[v].E, x)
	if e != api.OK {
		panic(e)
	}
	if is, _ := elem.IsWrong(w.lattice(v), join); is {
		panic(api.ErrFail)
	}
	w.vars[v].E = join
	w.happened(a, stmt, api.Event{Kind: api.EventJoin, Var: v, E: x})
	for _, l := range w.looks {
		w.watched(l)
	}
}

// watched has tasks come for what a look-out has not had.
func (w *world) watched(l *watch) {
	if l.arenas[len(l.arenas)-1].isOver {
		return
	}
	for _, key := range w.vars[l.variable].E.Keys {
		if slices.Contains(l.had, key) {
			continue
		}
		l.had = append(l.had, key)
		w.happened(l.by, l.each, api.Event{Kind: api.EventKey, Var: l.variable, N: key})
		names := map[string]any{w.Nodes[w.kids[l.each][0]].Text: key}
		for name, x := range l.by.names {
			names[name] = x
		}
		path := append(slices.Clone(l.by.Path), api.Hop{Site: w.notes.Sites[l.each], Piece: key})
		w.spawned(&actor{Actor: api.Actor{Path: path, Node: l.each, By: len(w.events) - 1}, names: names, member: l.arenas})
	}
}

func (w *world) spawn(a *actor, stmt int, yield func(ask)) {
	item := w.notes.Means[stmt]
	names := tried(stmt, yield, func() map[string]any {
		out := map[string]any{}
		for i, kid := range w.kids[stmt] {
			name := w.Nodes[w.kids[item][i]].Text
			if v, is := a.names[w.Nodes[kid].Text].(variable); is && w.Nodes[kid].Kind == api.NameNode {
				out[name] = v
			} else {
				out[name] = w.expr(a, kid)
			}
		}
		return out
	})
	w.step(a, stmt, always, yield)
	w.happened(a, stmt, api.Event{Kind: api.EventSpawn, N: len(w.actors)})
	path := append(slices.Clone(a.Path), api.Hop{Site: w.notes.Sites[stmt]})
	w.spawned(&actor{Actor: api.Actor{Path: path, Node: item, By: len(w.events) - 1}, names: names, member: slices.Concat(a.member, a.own)})
}

func (w *world) when(a *actor, stmt int, yield func(ask)) {
	v := int(a.names[w.Nodes[stmt].Text].(variable))
	points := tried(stmt, yield, func() []api.Elem {
		var out []api.Elem
		for _, kid := range w.kids[stmt] {
			out = append(out, w.point(a, w.kids[kid][0], w.vars[v].Shape))
		}
		return out
	})
	holds := func() int {
		for i, x := range points {
			if more, _ := elem.Delta(w.lattice(v), w.vars[v].E, x); more.Kind == api.ElemNone {
				return i
			}
		}
		return -1
	}
	w.step(a, stmt, func() bool { return holds() >= 0 }, yield)
	i := holds()
	w.happened(a, stmt, api.Event{Kind: api.EventWake, Var: v, N: i, E: points[i]})
	w.block(a, w.kids[w.kids[stmt][i]][1], yield)
}

// isQuiet tells whether all members of a pool have ended or failed.
func (w *world) isQuiet(p *arena) bool {
	return !slices.ContainsFunc(w.actors, func(a *actor) bool { return !a.hasDone && slices.Contains(a.member, p) })
}

// expr returns the integer of an expr.
func (w *world) expr(a *actor, node int) int {
	n := w.Nodes[node]
	var l []int
	for _, kid := range w.kids[node] {
		l = append(l, w.expr(a, kid))
	}
	one := map[bool]int{true: 1}
	out := 0
	switch n.Kind {
	case api.NumNode:
		return n.N
	case api.NameNode:
		return a.names[n.Text].(int)
	case api.SizeNode:
		return len(a.names[n.Text].(api.Elem).Keys)
	case api.HasNode:
		return one[slices.Contains(a.names[n.Text].(api.Elem).Keys, l[0])]
	case api.ValueNode:
		if x := a.names[n.Text].(api.Elem); x.Kind != api.ElemNone {
			return x.N
		}
		return l[0]
	case api.EqNode, api.NeNode:
		return one[(l[0] == l[1]) == (n.Kind == api.EqNode)]
	case api.LtNode, api.GeNode:
		return one[(l[0] < l[1]) == (n.Kind == api.LtNode)]
	case api.GtNode, api.LeNode:
		return one[(l[0] > l[1]) == (n.Kind == api.GtNode)]
	case api.NegNode:
		out = -l[0]
	case api.AddNode:
		out = l[0] + l[1]
	case api.SubNode:
		out = l[0] - l[1]
	case api.MulNode:
		out = l[0] * l[1]
	case api.DivNode:
		if l[1] == 0 {
			panic(fault{node, -1})
		}
		out = l[0] / l[1]
	}
	if out > api.MaxNumber || out < -api.MaxNumber {
		panic(fault{node, -2})
	}
	return out
}

// point returns the element of a point.
func (w *world) point(a *actor, node int, s api.Shape) api.Elem {
	x, e := elem.Parse(api.Lattice{Tables: w.tables, Shape: s}, w.pointText(a, node))
	if e != api.OK {
		panic(fmt.Sprint("no element: ", w.pointText(a, node)))
	}
	return x
}

func (w *world) pointText(a *actor, node int) string {
	n, kids := w.Nodes[node], w.kids[node]
	switch n.Kind {
	case api.OnPoint:
		return "on"
	case api.NamePoint:
		return "#" + n.Text
	case api.IntPoint:
		return fmt.Sprint(w.expr(a, kids[0]))
	case api.KeyPoint:
		key := w.expr(a, kids[0])
		return fmt.Sprintf("[%d: %s]", key, w.pointText(a, kids[1]))
	case api.SetPoint:
		var keys []int
		for _, kid := range kids {
			keys = append(keys, w.expr(a, kid))
		}
		slices.Sort(keys)
		var l []string
		for _, key := range slices.Compact(keys) {
			l = append(l, fmt.Sprint(key))
		}
		return "{" + strings.Join(l, ", ") + "}"
	}
	switch n.N {
	case 1:
		return "(" + w.pointText(a, kids[0]) + ", none)"
	case 2:
		return "(none, " + w.pointText(a, kids[0]) + ")"
	}
	first := w.pointText(a, kids[0])
	return "(" + first + ", " + w.pointText(a, kids[1]) + ")"
}

// history returns what happened.
func (w *world) history() api.History {
	h := api.History{Vars: w.vars, Events: w.events}
	for _, a := range w.actors {
		h.Actors = append(h.Actors, a.Actor)
	}
	return h
}

// pathLess tells whether a path is smaller than another one.
func pathLess(a, b []api.Hop) bool {
	for i := range a {
		switch {
		case i == len(b) || a[i].Site > b[i].Site || a[i].Site == b[i].Site && a[i].Piece > b[i].Piece:
			return false
		case a[i] != b[i]:
			return true
		}
	}
	return len(a) < len(b)
}

// outcome returns what there is.
func (w *world) outcome() api.Outcome {
	o := api.Outcome{Vars: slices.Clone(w.vars), Fails: slices.Clone(w.fails), Tasks: len(w.actors), Steps: w.steps}
	slices.Sort(o.Fails)
	insert := func(less func(i, j int) bool, swap func(i, j int), n int) {
		for i := range n {
			for j := i; j > 0 && less(j, j-1); j-- {
				swap(j, j-1)
			}
		}
	}
	insert(func(i, j int) bool {
		a, b := o.Vars[i], o.Vars[j]
		return pathLess(a.Path, b.Path) || !pathLess(b.Path, a.Path) && a.Site < b.Site
	}, func(i, j int) { o.Vars[i], o.Vars[j] = o.Vars[j], o.Vars[i] }, len(o.Vars))
	for _, a := range w.actors {
		if !a.hasDone && !a.ask.can() {
			o.Waits = append(o.Waits, api.Wait{Path: a.Path, Site: w.notes.Sites[a.ask.node]})
		}
	}
	insert(func(i, j int) bool { return pathLess(o.Waits[i].Path, o.Waits[j].Path) }, func(i, j int) { o.Waits[i], o.Waits[j] = o.Waits[j], o.Waits[i] }, len(o.Waits))
	return o
}
