package tell_test

import (
	"fmt"
	"slices"
	"strings"
	"testing"

	"dripstone/api"
	"dripstone/check"
	"dripstone/elem"
	"dripstone/tell"
)

// elemText returns a short text of an element.
func elemText(e api.Elem) string {
	switch e.Kind {
	case api.ElemNone:
		return "-"
	case api.ElemOn:
		return "on"
	case api.ElemInt:
		return fmt.Sprint(e.N)
	case api.ElemName:
		return fmt.Sprintf("#%d", e.N)
	case api.ElemSet:
		return fmt.Sprint(e.Keys)
	}
	var l []string
	for _, kid := range e.Kids {
		l = append(l, elemText(kid))
	}
	return fmt.Sprint(e.Keys, l)
}

// eventLines returns each event as a line: its kind, task, variable, number and element, and the first line of its node.
func eventLines(x api.Tree, h api.History) string {
	words := []string{"", "step", "make", "join", "spawn", "wake", "each", "key", "quiet", "read", "fail", "end"}
	var b strings.Builder
	for _, e := range h.Events {
		node, _, _ := strings.Cut(shown(x, e.Node), "\n")
		fmt.Fprintf(&b, "%s %d %d %d %s: %s\n", words[e.Kind], e.Task, e.Var, e.N, elemText(e.E), node)
	}
	return b.String()
}

// actorLines returns each task as a line: its path, its event, and the first line of its node.
func actorLines(x api.Tree, h api.History) string {
	var b strings.Builder
	for _, a := range h.Actors {
		node, _, _ := strings.Cut(shown(x, a.Node), "\n")
		fmt.Fprintf(&b, "%v %d: %s\n", a.Path, a.By, node)
	}
	return b.String()
}

// P6.3: each kind of event, and the order of those of one statement.
func TestHistory(t *testing.T) {
	for _, c := range []struct{ s, events, actors string }{
		{"task main() { }", "end 0 0 0 -: task main() {\n", "[] -1: task main() {\n"},
		{"task main() { all { } }", "quiet 0 0 0 -: all {\nend 0 0 0 -: task main() {\n", "[] -1: task main() {\n"},
		{"task main() { let a = 1 / 0; let b = 2; }", "fail 0 0 -1 -: 1 / 0\n", "[] -1: task main() {\n"},
		{"task main() { fail 3 * (1000000000 + 1); }", "fail 0 0 -2 -: 1000000000 + 1\n", "[] -1: task main() {\n"},
		{"task main() { share x: max; if 7 { } if 0 { } when x 1 / 0 { } }", `make 0 0 0 -: share x: max;
step 0 0 7 -: if 7 {
step 0 0 0 -: if 0 {
fail 0 0 -1 -: 1 / 0
`, "[] -1: task main() {\n"},
		{"task main() { share z: flag; share x: once; put x 2; let a = 5; when x 1 { fail 1; } or 2 { } }", `make 0 0 0 -: share z: flag;
make 0 1 0 -: share x: once;
join 0 1 0 2: put x 2;
step 0 0 5 -: let a = 5;
wake 0 1 1 2: when x 1 {
end 0 0 0 -: task main() {
`, "[] -1: task main() {\n"},
		// A look-out begins with two keys; a put brings two more, of which one is there.
		{"task main() { share z: flag; new x: set; all { put x {5, 3}; each x as k { } each x as l { put z on; } put x {4, 5}; } freeze x as y; fail size(y); }", `make 0 0 0 -: share z: flag;
make 0 1 0 -: new x: set;
join 0 1 0 [3 5]: put x {5, 3};
each 0 1 0 -: each x as k {
key 0 1 3 -: each x as k {
end 1 0 0 -: each x as k {
key 0 1 5 -: each x as k {
end 2 0 0 -: each x as k {
each 0 1 0 -: each x as l {
key 0 1 3 -: each x as l {
key 0 1 5 -: each x as l {
join 0 1 0 [4 5]: put x {4, 5};
key 0 1 4 -: each x as k {
end 5 0 0 -: each x as k {
key 0 1 4 -: each x as l {
join 3 0 0 on: put z on;
end 3 0 0 -: each x as l {
join 4 0 0 on: put z on;
end 4 0 0 -: each x as l {
join 6 0 0 on: put z on;
end 6 0 0 -: each x as l {
quiet 0 0 0 -: all {
read 0 1 0 [3 4 5]: freeze x as y;
fail 0 0 3 -: fail size(y);
`, `[] -1: task main() {
[{3 3}] 4: each x as k {
[{3 5}] 6: each x as k {
[{4 3}] 9: each x as l {
[{4 5}] 10: each x as l {
[{3 4}] 12: each x as k {
[{4 4}] 14: each x as l {
`},
		// A task ends by its statement behind what this spawned, and what comes by it.
		{"task main() { spawn g(2); spawn f(1); } task f(n: int) { } task g(n: int) { if n > 1 { spawn f(n); } }", `spawn 0 0 1 -: spawn g(2);
spawn 0 0 2 -: spawn f(1);
end 2 0 0 -: task f(n: int) {
end 0 0 0 -: task main() {
step 1 0 1 -: if n > 1 {
spawn 1 0 3 -: spawn f(n);
end 3 0 0 -: task f(n: int) {
end 1 0 0 -: task g(n: int) {
`, `[] -1: task main() {
[{0 0}] 0: task g(n: int) {
[{1 0}] 1: task f(n: int) {
[{0 0} {0 0}] 5: task f(n: int) {
`},
		// The smallest number goes on as soon as it can.
		{"task main() { share x: max; spawn f(x); when x 2 { } put x 9; } task f(x: max) { put x 1; put x 2; put x 3; }", `make 0 0 0 -: share x: max;
spawn 0 0 1 -: spawn f(x);
join 1 0 0 1: put x 1;
join 1 0 0 2: put x 2;
wake 0 0 0 2: when x 2 {
join 0 0 0 9: put x 9;
end 0 0 0 -: task main() {
join 1 0 0 3: put x 3;
end 1 0 0 -: task f(x: max) {
`, "[] -1: task main() {\n[{1 0}] 1: task f(x: max) {\n"},
		// A pool can be closed when the last one of its members has failed.
		{"task main() { all { spawn f(); } } task f() { let a = 1; let b = a / (a - 1); }", `spawn 0 0 1 -: spawn f();
step 1 0 1 -: let a = 1;
fail 1 0 -1 -: a / (a - 1)
quiet 0 0 0 -: all {
end 0 0 0 -: task main() {
`, "[] -1: task main() {\n[{1 0}] 0: task f() {\n"},
		{tint + "task main() { share x: map(tint); share y: pair(flag, set); put x [-1] #blue; put y pair(, {2, 1}); when y pair(, {2}) { } }", `make 0 0 0 -: share x: map(tint);
make 0 1 0 -: share y: pair(flag, set);
join 0 0 0 [-1] [#2]: put x [-1] #blue;
join 0 1 0 [] [- [1 2]]: put y pair(, {2, 1});
wake 0 1 0 [] [- [2]]: when y pair(, {2}) {
end 0 0 0 -: task main() {
`, "[] -1: task main() {\n"},
	} {
		x := program(t, c.s)
		h, e := tell.Log(x, nil)
		if e != api.OK || eventLines(x, h) != c.events {
			t.Errorf("Log of %s: %v\n%s, not\n%s", c.s, e, eventLines(x, h), c.events)
		}
		if got := actorLines(x, h); got != c.actors {
			t.Errorf("Log of %s:\n%s, not\n%s", c.s, got, c.actors)
		}
	}
}

// P6.3: the variables of a history, in the order in which they came, as at the end.
func TestHistoryVars(t *testing.T) {
	x := program(t, "task main() { spawn f(); let a = 1; share x: set; spawn g(x); } task f() { share y: max; put y 4; } task g(x: set) { put x {2}; share z: map(pair(flag, max)); }")
	h, e := tell.Log(x, nil)
	want := []api.VarState{
		{Site: 1, Shape: shape("set"), E: api.Elem{Kind: api.ElemSet, Keys: []int{2}}},
		{Path: []api.Hop{{Site: 0}}, Site: 0, Shape: shape("max"), E: api.Elem{Kind: api.ElemInt, N: 4}},
		{Path: []api.Hop{{Site: 2}}, Site: 0, Shape: shape("map(pair(flag, max))")},
	}
	if e != api.OK || !same(h.Vars, want) {
		t.Errorf("Log: %v, %+v", e, h.Vars)
	}
	o, _ := tell.Run(x, nil)
	if !same(o.Vars, []api.VarState{want[0], want[1], want[2]}) {
		t.Errorf("Run: %+v", o.Vars)
	}
}

// isStep tells whether an event is a step.
func isStep(x api.Tree, e api.Event) bool {
	switch e.Kind {
	case api.EventKey, api.EventEnd:
		return false
	case api.EventFail:
		return x.Nodes[e.Node].Kind == api.FailStmt
	}
	return true
}

// stmtOf returns the statement at which an event is, or in which its node is.
func stmtOf(x api.Tree, node int) int {
	at := node
	for x.Nodes[at].Kind < api.NewStmt || x.Nodes[at].Kind > api.FailStmt || at+x.Nodes[at].Size <= node {
		at--
	}
	return at
}

// P6.10: what is so of each history.
func TestHistories(t *testing.T) {
	fails := 0
	for _, s := range right(samples(400, false)) {
		h, e := tell.Log(s.Tree, s.in)
		o, f := tell.Run(s.Tree, s.in)
		tables, _ := check.Tables(s.Tree)
		if e != api.OK || f != api.OK {
			t.Fatalf("Log and Run: %v, %v", e, f)
		}
		steps := 0
		value := make([]api.Elem, len(h.Vars))
		isRead := make([]bool, len(h.Vars))
		by := make([]int, len(h.Actors))
		done := map[[2]int]bool{}
		join := func(v int, e api.Elem) api.Elem {
			x, _ := elem.Join(api.Lattice{Tables: tables, Shape: h.Vars[v].Shape}, value[v], e)
			return x
		}
		for i, e := range h.Events {
			if isStep(s.Tree, e) {
				steps++
			}
			if h.Actors[e.Task].By >= i {
				t.Fatalf("event %d is before that of its task: %s", i, eventLines(s.Tree, h))
			}
			switch e.Kind {
			case api.EventJoin:
				if isRead[e.Var] {
					t.Fatalf("event %d is behind the read: %s", i, eventLines(s.Tree, h))
				}
				value[e.Var] = join(e.Var, e.E)
			case api.EventWake:
				if !same(value[e.Var], join(e.Var, e.E)) {
					t.Fatalf("event %d is too early: %s", i, eventLines(s.Tree, h))
				}
			case api.EventRead:
				isRead[e.Var] = true
				if !same(value[e.Var], e.E) {
					t.Fatalf("event %d read something else: %s", i, eventLines(s.Tree, h))
				}
			case api.EventSpawn:
				by[e.N]++
				if h.Actors[e.N].By != i {
					t.Fatalf("event %d is not that of its task: %s", i, actorLines(s.Tree, h))
				}
			case api.EventKey:
				isIt := func(a api.Actor) bool { return a.By == i && a.Node == e.Node }
				n := slices.IndexFunc(h.Actors, isIt)
				if n < 0 {
					t.Fatalf("event %d has no task: %s", i, actorLines(s.Tree, h))
				}
				by[n]++
			case api.EventFail:
				fails++
			}
			if e.Kind != api.EventKey && e.Kind != api.EventEnd {
				stmt := [2]int{e.Task, stmtOf(s.Tree, e.Node)}
				if done[stmt] {
					t.Fatalf("event %d is of a statement that was done: %s", i, eventLines(s.Tree, h))
				}
				done[stmt] = true
			}
		}
		for i, n := range by {
			if i > 0 && n != 1 {
				t.Fatalf("task %d has %d events By: %s", i, n, eventLines(s.Tree, h))
			}
		}
		for i := range h.Vars {
			if !same(h.Vars[i].E, value[i]) {
				t.Fatalf("variable %d is %v, not %v", i, h.Vars[i].E, value[i])
			}
		}
		if steps != o.Steps {
			t.Fatalf("%d steps, not %d", steps, o.Steps)
		}
	}
	if fails < 100 {
		t.Errorf("only %d fail", fails)
	}
}

// within tells whether a node is in another one.
func within(x api.Tree, node, in int) bool { return in < node && node < in+x.Nodes[in].Size }

// innermost returns the innermost AllStmt in which a node is.
func innermost(x api.Tree, node int) int {
	at := node - 1
	for x.Nodes[at].Kind != api.AllStmt || !within(x, node, at) {
		at--
	}
	return at
}

// P6.11: what look-outs have had when their pools are quiet.
func TestHandlers(t *testing.T) {
	keys, later := 0, 0
	for _, s := range right(samples(400, false)) {
		h, _ := tell.Log(s.Tree, s.in)
		for i, each := range h.Events {
			if each.Kind != api.EventEach {
				continue
			}
			isQuiet := func(e api.Event) bool {
				return e.Kind == api.EventQuiet && e.Task == each.Task && e.Node == innermost(s.Tree, each.Node)
			}
			end := slices.IndexFunc(h.Events, isQuiet)
			if end < 0 {
				continue
			}
			had, has := map[int]int{}, map[int]bool{}
			for j, e := range h.Events {
				if e.Kind == api.EventKey && e.Task == each.Task && e.Node == each.Node {
					had[e.N]++
					if j < i || j > end || e.Var != each.Var {
						t.Fatalf("a key at %d, the look-out %d ends at %d: %s", j, i, end, eventLines(s.Tree, h))
					}
				}
				if e.Kind == api.EventJoin && e.Var == each.Var && j < end {
					for _, key := range e.E.Keys {
						has[key] = true
					}
				}
				if e.Kind == api.EventJoin && e.Var == each.Var && j > end {
					later++
				}
			}
			for key := range has {
				keys++
				if had[key] != 1 {
					t.Fatalf("the key %d has %d tasks of %d: %s", key, had[key], i, eventLines(s.Tree, h))
				}
			}
			if len(had) != len(has) {
				t.Fatalf("keys %v, but %v: %s", had, has, eventLines(s.Tree, h))
			}
		}
	}
	if keys < 500 || later < 50 {
		t.Errorf("only %d keys, and %d joins behind an end", keys, later)
	}
}

// P6.12: members have ended or failed before their pool is quiet.
func TestPools(t *testing.T) {
	quiet, many := 0, 0
	for _, s := range right(samples(400, false)) {
		h, _ := tell.Log(s.Tree, s.in)
		for i, e := range h.Events {
			if e.Kind != api.EventQuiet {
				continue
			}
			quiet++
			member := make([]bool, len(h.Actors))
			for n, a := range h.Actors {
				if a.By < 0 {
					continue
				}
				by := h.Events[a.By]
				member[n] = member[by.Task] || by.Task == e.Task && within(s.Tree, by.Node, e.Node)
				if !member[n] {
					continue
				}
				many++
				isEnd := func(x api.Event) bool {
					return x.Task == n && (x.Kind == api.EventEnd || x.Kind == api.EventFail)
				}
				if !slices.ContainsFunc(h.Events[:i], isEnd) {
					t.Fatalf("task %d is still there at %d: %s", n, i, eventLines(s.Tree, h))
				}
			}
		}
	}
	if quiet < 500 || many < 500 {
		t.Errorf("only %d pools with %d members", quiet, many)
	}
}
