package tell_test

import (
	"fmt"
	"slices"
	"strings"
	"testing"

	"dripstone/api"
	"dripstone/parse"
	"dripstone/tell"
)

// errorsOf returns the errors of all functions with a tree, with picks and a number of steps; it fails if another result comes with one.
func errorsOf(t *testing.T, x api.Tree, in, picks []int, steps int) []api.Errno {
	t.Helper()
	o, a := tell.Run(x, in)
	p, b := tell.Order(x, in, picks)
	h, c := tell.Log(x, in)
	q, d := tell.After(x, in, steps)
	s, e := tell.Tell(x, in)
	l, f := tell.Times(x, in)
	m, g := tell.Paths(x, in)
	all := []api.Errno{a, b, c, d, e, f, g}
	isZero := []bool{same(o, api.Outcome{}), same(p, api.Outcome{}), same(h, api.History{}), same(q, api.Outcome{}), s == "", len(l) == 0, len(m) == 0}
	for i, e := range all {
		if (e != api.OK) != isZero[i] {
			t.Errorf("function %d of %s: %v, and whether nothing comes with it: %v", i, shown(x, 0), e, isZero[i])
		}
	}
	return all
}

// every returns the same error of all functions.
func every(e api.Errno) []api.Errno { return slices.Repeat([]api.Errno{e}, 7) }

// The order of errors: each program has all errors that come later, too.
func TestOrderOfErrors(t *testing.T) {
	good := "task main(a: int, b: int) { share x: once; put x 1; put x 2; }"
	noForm := parsed(t, good)
	noForm.Nodes[1].Size = 5
	for _, c := range []struct {
		why   string
		tree  api.Tree
		in    []int
		picks []int
		steps int
		want  []api.Errno
	}{
		{"no tree", api.Tree{}, nil, []int{-1}, -1, every(api.ErrForm)},
		{"too many nodes", api.Tree{Nodes: make([]api.TreeNode, api.MaxNodes+1)}, nil, []int{-1}, -1, every(api.ErrLimit)},
		{"no form", noForm, nil, []int{-1}, -1, every(api.ErrForm)},
		{"names", parsed(t, "use f(); task f(x: set) { freeze x as y; put x 1; } task main(x: set) { put x 1; put z 1; }"), nil, []int{-1}, -1, every(api.ErrTwice)},
		{"types", parsed(t, "use f(); task g(x: set) { freeze x as y; put x 1; }"), nil, []int{-1}, -1, every(api.ErrType)},
		{"growth", parsed(t, "use f(); task g(x: set) { freeze x as y; }"), nil, []int{-1}, -1, every(api.ErrState)},
		{"no main", parsed(t, "use f(); task g() { }"), nil, []int{-1}, -1, every(api.ErrNone)},
		{"main with a variable", parsed(t, "use f(); task main(x: set) { }"), nil, []int{-1}, -1, every(api.ErrType)},
		{"a use", parsed(t, "use f(); task main(a: int, b: int) { share x: once; put x 1; put x 2; }"), []int{1 << 40}, []int{-1}, -1, every(api.ErrState)},
		{"inputs too few", parsed(t, good), []int{1 << 40}, []int{-1}, -1, every(api.ErrArg)},
		{"inputs too many", parsed(t, good), []int{1 << 40, 2, 3}, []int{-1}, -1, every(api.ErrArg)},
		{"no input", parsed(t, good), nil, []int{-1}, -1, every(api.ErrArg)},
		{"an input too great", parsed(t, good), []int{1, api.MaxNumber + 1}, []int{-1}, -1, every(api.ErrRange)},
		{"an input too small", parsed(t, good), []int{-api.MaxNumber - 1, 1}, []int{-1}, -1, every(api.ErrRange)},
		{"own ones", parsed(t, good), []int{1, 2}, []int{-1}, -1, []api.Errno{api.ErrFail, api.ErrRange, api.ErrFail, api.ErrRange, api.ErrFail, api.ErrFail, api.ErrFail}},
		{"picks too many", parsed(t, good), []int{1, 2}, slices.Repeat([]int{-1}, api.MaxSteps+1), 9, append([]api.Errno{api.ErrFail, api.ErrLimit}, every(api.ErrFail)[2:]...)},
		{"of the execution", parsed(t, good), []int{1, 2}, nil, 3, every(api.ErrFail)},
		{"none", parsed(t, good), []int{1, 2}, nil, 2, []api.Errno{api.ErrFail, api.ErrFail, api.ErrFail, api.OK, api.ErrFail, api.ErrFail, api.ErrFail}},
		{"inputs that can be", parsed(t, "task main(a: int, b: int) { fail a + b; }"), []int{-api.MaxNumber, api.MaxNumber}, make([]int, api.MaxSteps), 0, every(api.OK)},
	} {
		if got := errorsOf(t, c.tree, c.in, c.picks, c.steps); !slices.Equal(got, c.want) {
			t.Errorf("%s: %v, not %v", c.why, got, c.want)
		}
	}
}

// lets returns so many statements, each of which is a step.
func lets(name string, count int) string {
	s := ""
	for i := range count {
		s += fmt.Sprintf("let %s%s = 1; ", name, string(rune('a'+i)))
	}
	return s
}

// long returns a program with 3983 steps, of which that of a statement is the last one, and as many more before as are said, at least 13.
func long(more int, last string) string {
	main := "share x: once; put x 1; spawn f(x, 198); if 1 { " + lets("a", 12) + "} " + lets("b", more-13)
	return "task main() { " + main + "} task f(x: once, n: int) { " + lets("a", 10) + "if 1 { " + lets("b", 7) + "} if n { spawn f(x, n - 1); } else { " + last + " } }"
}

// A step more than there may be, which comes before all other errors; what fails by an expr is none.
func TestSteps(t *testing.T) {
	for _, c := range []struct {
		last  string
		at    api.Errno // if it is the step MaxSteps
		above api.Errno // if it would be one more
	}{
		{"put x 1;", api.OK, api.ErrLimit},
		{"put x 2;", api.ErrFail, api.ErrLimit},
		{"let z = 1;", api.OK, api.ErrLimit},
		{"let z = 1 / 0;", api.OK, api.OK},
		{"fail 3;", api.OK, api.ErrLimit},
		{"fail 1 / 0;", api.OK, api.OK},
		{"if 0 { }", api.OK, api.ErrLimit},
		{"if 2 * 1000000000 { }", api.OK, api.OK},
		{"all { }", api.OK, api.ErrLimit},
		{"when x 1 { }", api.OK, api.ErrLimit},
		{"when x 2 { }", api.OK, api.OK},
		{"when x 1 / 0 { }", api.OK, api.OK},
		{"share y: set;", api.OK, api.ErrLimit},
		{"", api.OK, api.OK},
	} {
		for more, want := range map[int]api.Errno{17: c.at, 18: c.above} {
			x := program(t, long(more, c.last))
			if got := errorsOf(t, x, nil, nil, api.MaxSteps+1); !slices.Equal(got, every(want)) {
				t.Errorf("%d steps and %s: %v, not %v", more+3983, c.last, got, want)
			}
			if o, e := tell.Run(x, nil); e == api.OK && o.Steps < api.MaxSteps-1 {
				t.Errorf("%d steps and %s: only %d", more+3983, c.last, o.Steps)
			}
			// Up to the last step that there may be nothing is wrong.
			if o, e := tell.After(x, nil, api.MaxSteps); more == 18 && (e != api.OK || o.Steps != api.MaxSteps || o.Tasks != 200) {
				t.Errorf("%d steps and %s: After: %v, %d", more+3983, c.last, e, o.Steps)
			}
		}
	}
	o, e := tell.Run(program(t, long(17, "put x 1;")), nil)
	if e != api.OK || o.Steps != api.MaxSteps {
		t.Errorf("Run: %v, %d steps", e, o.Steps)
	}
}

// Tasks, variables and keys: as many as there may be, and one more.
func TestMost(t *testing.T) {
	spawns := "task main(n: int, m: int) { if m { spawn f(0); } spawn f(n); } task f(n: int) { if n { spawn f(n - 1); } }"
	vars := "task main(n: int, m: int) { spawn f(n); if m { share z: set; } } task f(n: int) { share a: flag; new b: set; if n { spawn f(n - 1); } }"
	news := "task main(n: int, m: int) { spawn f(n); if m { new z: set; } } task f(n: int) { share a: flag; new b: set; if n { spawn f(n - 1); } }"
	// The last of n + 1 tasks puts one key, or two, into what is looked at.
	later := "task main(n: int, m: int) { new x: set; all { each x as k { } spawn f(x, n, m); } } task f(x: set, n: int, m: int) { if n { spawn f(x, n - 1, m); } else { put x {0, m}; } }"
	// The look-out begins behind all n + 1 tasks, with one key or two.
	first := "task main(n: int, m: int) { new x: set; share d: flag; all { put x {0, m}; spawn f(d, n); when d on { each x as k { fail k; } } } } task f(d: flag, n: int) { if n { spawn f(d, n - 1); } else { put d on; } }"
	set := "task main(n: int, m: int) { share x: set; spawn f(x, n); if m { put x {-1}; } } task f(x: set, n: int) { if n { put x {n, 1}; spawn f(x, n - 1); } }"
	keyed := "task main(n: int, m: int) { share x: map(max); spawn f(x, n); if m { put x [-1] 1; } } task f(x: map(max), n: int) { if n { put x [n] 3; spawn f(x, n - 1); } }"
	deep := "task main(n: int, m: int) { share x: map(pair(flag, set)); put x [3] pair(on, ); spawn f(x, n); if m { put x [5] pair(, {-1}); } } task f(x: map(pair(flag, set)), n: int) { if n { put x [5] pair(, {n, 1}); put x [7] pair(, {n}); spawn f(x, n - 1); } }"
	for _, c := range []struct {
		s    string
		most int // with m 0; with 1 it is one too many
	}{{spawns, 198}, {vars, 99}, {news, 99}, {later, 197}, {first, 197}, {set, 40}, {keyed, 40}, {deep, 40}} {
		x := program(t, c.s)
		for _, in := range [][]int{{c.most, 0}, {c.most - 1, 1}, {c.most, 1}, {c.most + 1, 0}} {
			want := api.OK
			if in[0]+in[1] > c.most {
				want = api.ErrLimit
			}
			if in[0] < c.most && c.most == 99 {
				in[0]-- // each has two variables
			}
			if got := errorsOf(t, x, in, nil, api.MaxSteps); !slices.Equal(got, every(want)) {
				t.Errorf("%v of %s: %v, not %v", in, c.s, got, want)
			}
		}
	}
	o, e := tell.Run(program(t, spawns), []int{198, 0})
	p, f := tell.Run(program(t, vars), []int{99, 0})
	q, g := tell.Run(program(t, later), []int{197, 0})
	if e != api.OK || f != api.OK || g != api.OK || o.Tasks != api.MaxTasks || len(p.Vars) != api.MaxVars || q.Tasks != api.MaxTasks {
		t.Errorf("Run: %v %v %v, %d tasks, %d variables, %d tasks", e, f, g, o.Tasks, len(p.Vars), q.Tasks)
	}
	if _, e := tell.Run(program(t, "task main() { spawn main(); }"), nil); e != api.ErrLimit {
		t.Errorf("Run without end: %v", e)
	}
}

// Variables that become wrong, and those that do not.
func TestWrong(t *testing.T) {
	for _, c := range []struct {
		shape, puts string
		e           api.Errno
	}{
		{"once", "1; 2", api.ErrFail}, {"once", "1; 1", api.OK}, {"once", "-1; 1", api.ErrFail}, {"max", "1; 2", api.OK},
		{"tint", "#red; #blue", api.ErrFail}, {"tint", "#red; #red", api.OK}, {"tint", "#both", api.ErrFail},
		{"map(once)", "[1] 1; [2] 2", api.OK}, {"map(once)", "[1] 1; [1] 2", api.ErrFail}, {"map(map(tint))", "[1] [0] #red; [1] [0] #blue", api.ErrFail}, {"map(tint)", "[3] #both", api.ErrFail},
		{"pair(once, once)", "pair(1, 2); pair(1, 2)", api.OK}, {"pair(once, once)", "pair(1, 2); pair(, 1)", api.ErrFail}, {"pair(once, once)", "pair(1, ); pair(, 2)", api.OK}, {"pair(tint, set)", "pair(#blue, {1}); pair(#red, )", api.ErrFail},
	} {
		puts := strings.ReplaceAll("put x "+c.puts+";", "; ", "; put x ")
		x := program(t, tint+"task main() { share x: "+c.shape+"; "+puts+" }")
		if got := errorsOf(t, x, nil, nil, 9); !slices.Equal(got, every(c.e)) {
			t.Errorf("%s into %s: %v, not %v", puts, c.shape, got, c.e)
		}
	}
}

// Of a put too many keys come before what is wrong, and this before a task too many.
func TestOrderOfOnePut(t *testing.T) {
	keys := "task main(n: int, m: int) { share x: pair(set, once); put x pair(, 1); spawn f(x, n, m); } task f(x: pair(set, once), n: int, m: int) { if n > 1 { put x pair({n}, ); spawn f(x, n - 1, m); } else { put x pair({1}, m); } }"
	tasks := tint + "task main(n: int, m: int) { new x: map(tint); all { each x as k { } spawn f(x, n, m); } } task f(x: map(tint), n: int, m: int) { if n { spawn f(x, n - 1, m); } else { if m { put x [1] #both; } else { put x [1] #red; } } }"
	for _, c := range []struct {
		s    string
		in   []int
		want api.Errno
	}{
		{keys, []int{40, 1}, api.OK}, {keys, []int{40, 2}, api.ErrFail}, {keys, []int{41, 1}, api.ErrLimit}, {keys, []int{41, 2}, api.ErrLimit},
		{tasks, []int{197, 0}, api.OK}, {tasks, []int{198, 0}, api.ErrLimit}, {tasks, []int{198, 1}, api.ErrFail},
	} {
		if got := errorsOf(t, program(t, c.s), c.in, nil, api.MaxSteps); !slices.Equal(got, every(c.want)) {
			t.Errorf("%v of %s: %v, not %v", c.in, c.s, got, c.want)
		}
	}
}

// parse.Check's limit of levels comes with its own error.
func TestTooDeep(t *testing.T) {
	x := parsed(t, "task main() { fail 1; }")
	for range api.MaxDeep {
		sub := append([]api.TreeNode{{Kind: api.NegNode, Size: x.Nodes[4].Size + 1}}, x.Nodes[4:]...)
		x = api.Tree{Nodes: slices.Concat(x.Nodes[:4], sub)}
		for i := range 4 {
			x.Nodes[i].Size++
		}
	}
	if want := parse.Check(x); want != api.ErrLimit || !slices.Equal(errorsOf(t, x, []int{1}, nil, 0), every(want)) {
		t.Errorf("a tree that is too deep: %v, %v", want, errorsOf(t, x, []int{1}, nil, 0))
	}
}
