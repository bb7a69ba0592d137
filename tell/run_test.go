package tell_test

import (
	"fmt"
	"strings"
	"testing"

	"dripstone/api"
	"dripstone/tell"
)

// failsWith returns the program whose only failure is the integer of an expr, with a (7), b (-3), and the frozen s {2, 5}, m [1: 4, 9: 8], x 6, o 9, e and f (a max and a once that are the bottom).
func failsWith(expr string) string {
	made := "task main(a: int, b: int) { new vs: set; new vm: map(max); new vx: max; new vo: once; new ve: max; new vf: once; "
	put := "all { put vs {2, 5}; put vm [1] 4; put vm [9] 8; put vx 6; put vo 9; } "
	read := "freeze vs as s; if 1 { freeze vm as m; freeze vx as x; freeze vo as o; freeze ve as e; freeze vf as f; "
	return made + put + read + "fail " + expr + "; } }"
}

// P6.1: the integers of exprs, and the numbers with which they fail.
func TestExprs(t *testing.T) {
	for _, c := range []struct {
		expr string
		want int
	}{
		{"0", 0}, {"1000000000", 1000000000}, {"-1000000000", -1000000000}, {"--5", 5}, {"-0", 0}, {"-(3 - 5)", 2},
		{"a", 7}, {"b", -3}, {"a + b", 4}, {"a - b", 10}, {"b - a", -10}, {"a * b", -21},
		{"a / 2", 3}, {"-a / 2", -3}, {"a / -2", -3}, {"-a / -2", 3}, {"b / 4", 0}, {"0 / a", 0}, {"a / a", 1}, {"1000000000 / -1", -1000000000},
		{"a == 7", 1}, {"a == 6", 0}, {"a != 7", 0}, {"a != 6", 1},
		{"a < 7", 0}, {"a < 8", 1}, {"a < 6", 0}, {"a <= 7", 1}, {"a <= 6", 0}, {"a <= 8", 1},
		{"a > 7", 0}, {"a > 6", 1}, {"a > 8", 0}, {"a >= 7", 1}, {"a >= 8", 0}, {"a >= 6", 1},
		{"b < 0", 1}, {"1 - 2 - 3", -4}, {"2 + 3 * 4", 14}, {"(2 + 3) * 4", 20}, {"100 / 10 / 5", 2},
		{"size(s)", 2}, {"size(m)", 2}, {"has(s, 2)", 1}, {"has(s, 3)", 0}, {"has(s, a - 2)", 1}, {"has(m, 9)", 1}, {"has(m, 8)", 0},
		{"value(x, 3)", 6}, {"value(o, a)", 9}, {"value(e, 3)", 3}, {"value(f, a * 2)", 14}, {"value(e, -b)", 3},
		{"a / 0", -1}, {"a / (b + 3)", -1}, {"0 / 0", -1}, {"1000000000 + 1", -2}, {"-1000000000 - 1", -2}, {"1000000000 * 1000000000", -2}, {"-1000000000 * 2", -2}, {"500000000 * 2", 1000000000}, {"500000000 * -2", -1000000000}, {"1000000000 + 0", 1000000000}, {"-1000000000 - 0", -1000000000}, {"500000001 * -2", -2},
		// The first part that fails, though others would fail, too, or what holds it would.
		{"1 / 0 + 1000000000 * 2", -1}, {"1000000000 * 2 + 1 / 0", -2}, {"1000000000 * 2 / 0", -2}, {"1 / (1000000000 + 1)", -2}, {"(1 / 0) * 1000000000 * 1000000000", -1},
		// Kids are worked out also where they are not needed.
		{"value(x, 1 / 0)", -1}, {"value(o, 2 * 1000000000)", -2}, {"has(s, 1 / 0)", -1}, {"-(1 / 0)", -1}, {"1 / 0 == 1 / 0", -1},
	} {
		o, e := tell.Run(program(t, failsWith(c.expr)), []int{7, -3})
		if e != api.OK || len(o.Fails) != 1 || o.Fails[0] != c.want {
			t.Errorf("%s: %v, %v, not %d", c.expr, o.Fails, e, c.want)
		}
	}
}

// P6.1: the elements of points.
func TestPoints(t *testing.T) {
	for _, c := range []struct{ shape, point, want string }{
		{"flag", "on", "on"}, {"max", "a", "7"}, {"max", "-a * 2", "-14"}, {"max", "0", "0"}, {"once", "b", "-3"},
		{"set", "{a}", "{7}"}, {"set", "{a, b, 1, a}", "{-3, 1, 7}"}, {"set", "{3, 3, 3}", "{3}"},
		{"tint", "#red", "#red"}, {"tint", "#blue", "#blue"},
		{"map(flag)", "[a] on", "[7: on]"}, {"map(map(max))", "[a] [b] a + b", "[7: [-3: 4]]"}, {"map(tint)", "[-1] #blue", "[-1: #blue]"},
		{"pair(max, set)", "pair(a, {b})", "(7, {-3})"}, {"pair(max, set)", "pair(a, )", "(7, none)"}, {"pair(max, set)", "pair(, {b, 2})", "(none, {-3, 2})"},
		{"pair(max, max)", "pair(, 2)", "(none, 2)"}, {"pair(max, max)", "pair(2, )", "(2, none)"}, {"pair(pair(flag, tint), map(once))", "pair(pair(, #red), [0] a)", "((none, #red), [0: 7])"},
	} {
		for _, s := range []string{"put x %s;", "put x %[1]s; when x %[1]s { put x %[1]s; }"} {
			text := tint + "task main(a: int, b: int) { share x: " + c.shape + "; " + fmt.Sprintf(s, c.point) + " }"
			got, e := tell.Tell(program(t, text), []int{7, -3})
			if e != api.OK || !strings.HasSuffix(got, "\nvar main 0 "+c.shape+" = "+c.want+"\n") {
				t.Errorf("%s: %v, %s", text, e, got)
			}
		}
	}
	// The first part of a point that fails.
	for point, want := range map[string]int{"[1 / 0] {2 * 1000000000}": -1, "[2 * 1000000000] {1 / 0}": -2, "[1] {1, 2 * 1000000000, 1 / 0}": -2, "[1] {1 / 0, 2 * 1000000000}": -1} {
		for _, s := range []string{"put x %s;", "when x %s { put x [1] {1}; }"} {
			o, e := tell.Run(program(t, "task main() { share x: map(set); "+fmt.Sprintf(s, point)+" let a = 1; }"), nil)
			if e != api.OK || !same(o.Fails, []int{want}) || o.Steps != 1 || o.Vars[0].E.Kind != api.ElemNone || len(o.Waits) != 0 {
				t.Errorf("%s: %v, %+v", point, e, o)
			}
		}
	}
}

// P6.1, P6.5: what statements do, as texts.
func TestOutcomes(t *testing.T) {
	for _, c := range []struct {
		s    string
		in   []int
		want string
	}{
		{"task main() { }", nil, "tasks 1, steps 0\n"},
		{"task f() { fail 1; } task main() { } task g() { spawn f(); }", nil, "tasks 1, steps 0\n"},
		{"task main(a: int, b: int, c: int, d: int, e: int) { fail a + 10 * b + 100 * c + 1000 * d + 10000 * e; }", []int{1, 2, 3, 4, 5}, "tasks 1, steps 1\nfail 54321\n"},
		{"task main(a: int, b: int) { fail a; fail b; }", []int{1000000000, -1000000000}, "tasks 1, steps 1\nfail 1000000000\n"},
		// Sites are counted through blocks, and what is no site has none.
		{"task main() { let a = 1; if a { share x: set; put x {a}; } all { share y: max; } share z: flag; }", nil, "tasks 1, steps 7\nvar main 0 set = {1}\nvar main 2 max = none\nvar main 3 flag = none\n"},
		// A name is what it was made to be by its own task.
		{"task main() { share x: set; spawn f(x, 1); spawn f(x, 2); let n = 3; put x {n}; } task f(y: set, n: int) { let k = n * 10; put y {n, k}; }", nil, "tasks 3, steps 9\nvar main 0 set = {1, 2, 3, 10, 20}\n"},
		{"task main() { share x: max; share y: set; spawn f(1, y, 2, x); } task f(a: int, p: set, b: int, q: max) { put p {a}; put q b; }", nil, "tasks 2, steps 5\nvar main 0 max = 2\nvar main 1 set = {1}\n"},
		{"task main() { share x: set; share y: set; spawn f(y, x); } task f(x: set, y: set) { put x {1}; put y {2}; }", nil, "tasks 2, steps 5\nvar main 0 set = {2}\nvar main 1 set = {1}\n"},
		// A when waits for all of its element, and goes on where it is above it.
		{"task main() { share x: set; when x {1, 2} { } put x {1}; }", nil, "tasks 1, steps 1\nvar main 0 set = none\nwait main 1\n"},
		{"task main() { share x: set; put x {2, 3}; when x {1, 2} { } }", nil, "tasks 1, steps 2\nvar main 0 set = {2, 3}\nwait main 1\n"},
		{"task main() { share x: max; put x 5; when x 5 { } when x 4 { } when x 6 { } }", nil, "tasks 1, steps 4\nvar main 0 max = 5\nwait main 3\n"},
		{"task main() { share x: map(max); put x [2] 5; when x [2] 4 { } when x [1] 4 { } }", nil, "tasks 1, steps 3\nvar main 0 map(max) = [2: 5]\nwait main 2\n"},
		{"task main() { share x: map(max); put x [2] 5; when x [2] 6 { } }", nil, "tasks 1, steps 2\nvar main 0 map(max) = [2: 5]\nwait main 1\n"},
		{"task main() { share x: map(set); when x [2] {1} { } }", nil, "tasks 1, steps 1\nvar main 0 map(set) = none\nwait main 1\n"},
		{"task main() { share x: pair(max, map(flag)); put x pair(, [3] on); when x pair(, [3] on) { } when x pair(1, [3] on) { } }", nil, "tasks 1, steps 3\nvar main 0 pair(max, map(flag)) = (none, [3: on])\nwait main 2\n"},
		{tint + "task main() { share x: tint; put x #blue; when x #red { fail 1; } or #blue { fail 2; } }", nil, "tasks 1, steps 4\nvar main 0 tint = #blue\nfail 2\n"},
		{"task main() { share x: once; put x 3; when x 1 { fail 1; } or 2 { fail 2; } or 3 { fail 3; } or 4 { fail 4; } }", nil, "tasks 1, steps 4\nvar main 0 once = 3\nfail 3\n"},
		// Behind a when, an if and a pool, from however deep in it.
		{"task main() { share x: flag; put x on; if 1 { when x on { if 0 { } else { if 2 { } } } let a = 1; } else { fail 1; } all { all { } let b = 1; } fail 9; }", nil, "tasks 1, steps 11\nvar main 0 flag = on\nfail 9\n"},
		{"task main(n: int) { if n { fail 1; } fail 2; }", []int{-1}, "tasks 1, steps 2\nfail 1\n"},
		{"task main(n: int) { if n { fail 1; } fail 2; }", []int{0}, "tasks 1, steps 2\nfail 2\n"},
		// Tasks that wait, by their paths.
		{"task main() { share x: flag; spawn f(x, 1); spawn f(x, 0); all { spawn f(x, 0); } } task f(x: flag, n: int) { if n { spawn f(x, 0); } when x on { } }", nil, "tasks 5, steps 9\nvar main 0 flag = none\nwait main 3\nwait main/1:0 1\nwait main/1:0/0:0 1\nwait main/2:0 1\nwait main/4:0 1\n"},
		{"task main() { new x: set; all { put x {2, -7, 11}; each x as k { share y: max; put y k; when y k + 1 { } } } }", nil, "tasks 4, steps 9\nvar main 0 set = {-7, 2, 11}\nvar main/2:-7 3 max = -7\nvar main/2:2 3 max = 2\nvar main/2:11 3 max = 11\nwait main 1\nwait main/2:-7 4\nwait main/2:2 4\nwait main/2:11 4\n"},
		// Failures, ascending, each as often as there were some.
		{"task main() { spawn f(3); spawn f(-1); spawn f(3); spawn f(20); fail 0; } task f(n: int) { fail n; }", nil, "tasks 5, steps 9\nfail -1\nfail 0\nfail 3\nfail 3\nfail 20\n"},
		// What fails has done all before, and nothing behind.
		{"task main() { share x: set; put x {1}; put x {2 / 0}; put x {3}; }", nil, "tasks 1, steps 2\nvar main 0 set = {1}\nfail -1\n"},
		{"task main() { share x: set; spawn f(x, 1 / 0); put x {3}; } task f(x: set, n: int) { put x {1}; }", nil, "tasks 1, steps 1\nvar main 0 set = none\nfail -1\n"},
		{"task main() { share x: set; spawn f(1000000000 * 2, x, 1 / 0); put x {3}; } task f(m: int, x: set, n: int) { put x {1}; }", nil, "tasks 1, steps 1\nvar main 0 set = none\nfail -2\n"},
		{"task main() { if 1 / 0 { fail 1; } else { fail 2; } }", nil, "tasks 1, steps 0\nfail -1\n"},
		{"task main() { fail 1 / 0; }", nil, "tasks 1, steps 0\nfail -1\n"},
		// Pools wait for members, and theirs, also for those of inner ones and of look-outs, and not for others.
		{"task main() { share x: set; spawn w(x); all { spawn f(x); } put x {9}; } task w(x: set) { when x {7} { } } task f(x: set) { spawn g(x); } task g(x: set) { put x {1}; put x {2}; }", nil, "tasks 4, steps 8\nvar main 0 set = {1, 2, 9}\nwait main/1:0 0\n"},
		{"task main() { share x: set; all { spawn f(x); } put x {9}; } task f(x: set) { spawn g(x); } task g(x: set) { when x {9} { } }", nil, "tasks 3, steps 3\nvar main 0 set = none\nwait main 1\nwait main/2:0/0:0 0\n"},
		{"task main() { share x: set; all { all { } spawn f(x); } put x {9}; } task f(x: set) { all { spawn g(x); } } task g(x: set) { fail 4; }", nil, "tasks 3, steps 8\nvar main 0 set = {9}\nfail 4\n"},
		{"task main() { new v: set; share x: set; all { put v {1}; all { each v as k { when x {9} { } } } put x {9}; } }", nil, "tasks 2, steps 4\nvar main 0 set = {1}\nvar main 1 set = none\nwait main 3\nwait main/4:1 5\n"},
		{"task main() { new v: set; share x: set; all { put v {1}; each v as k { when x {9} { } } put x {9}; } put x {10}; }", nil, "tasks 2, steps 8\nvar main 0 set = {1}\nvar main 1 set = {9, 10}\n"},
		// A pool whose task has failed is never closed: its look-out goes on.
		{"task main() { share r: set; spawn f(r); } task f(r: set) { new x: set; all { each x as k { put r {k}; } spawn g(x); fail 3; } } task g(x: set) { put x {1}; put x {2, 3}; }", nil, "tasks 6, steps 11\nvar main 0 set = {1, 2, 3}\nvar main/1:0 0 set = {1, 2, 3}\nfail 3\n"},
		// A look-out is over when its pool is closed; those of another one are not.
		{"task main() { new x: set; share r: set; all { all { put x {1}; each x as k { put r {k}; } } put x {2}; each x as l { put r {10 * l}; } put x {3}; } put x {4}; }", nil, "tasks 5, steps 14\nvar main 0 set = {1, 2, 3, 4}\nvar main 1 set = {1, 10, 20, 30}\n"},
		// What is looked for is a key, once, whatever else comes with it.
		{"task main() { new x: map(set); share r: max; all { put x [4] {1}; each x as k { put r k; put x [4] {2}; put x [k] {3}; } put x [4] {5}; put x [2] {5}; } }", nil, "tasks 3, steps 13\nvar main 0 map(set) = [2: {3, 5}, 4: {1, 2, 3, 5}]\nvar main 1 max = 4\n"},
		// In the block of a look-out names stand for what they did there, and own variables of its task can be put into.
		{"task main(n: int) { let m = n + 1; new x: set; all { each x as k { let z = k * m; if k < 20 { put x {z}; } } put x {n}; } freeze x as y; fail size(y); }", []int{2}, "tasks 5, steps 18\nvar main 0 set = {2, 6, 18, 54}\nfail 4\n"},
		{"task main() { new x: set; all { each x as k { new y: set; all { put y {k + 1}; each y as l { fail 10 * k + l; } } } put x {1, 3}; } }", nil, "tasks 5, steps 14\nvar main 0 set = {1, 3}\nvar main/2:1 3 set = {2}\nvar main/2:3 3 set = {4}\nfail 12\nfail 34\n"},
		// Two look-outs of one variable.
		{"task main() { new x: set; all { each x as k { fail k; } each x as l { fail -l; } put x {1, 2}; } }", nil, "tasks 5, steps 9\nvar main 0 set = {1, 2}\nfail -2\nfail -1\nfail 1\nfail 2\n"},
		// What is frozen is the value that there is.
		{"task main() { new x: max; put x 3; put x 5; put x 4; freeze x as y; fail value(y, 0); }", nil, "tasks 1, steps 6\nvar main 0 max = 5\nfail 5\n"},
		{"task main() { new x: set; freeze x as y; fail size(y) + 10 * has(y, 0); }", nil, "tasks 1, steps 3\nvar main 0 set = none\nfail 0\n"},
	} {
		if s, e := tell.Tell(program(t, c.s), c.in); s != c.want || e != api.OK {
			t.Errorf("Tell of %s: %v\n%s, not\n%s", c.s, e, s, c.want)
		}
	}
}

// P6.5: a value has no text if that would be too long.
func TestLongValue(t *testing.T) {
	// Of 34 keys with these sets, and one with a smaller one, the text has as many bytes as there may be, if m has 9 digits.
	s := "task main(n: int, m: int) { share x: map(set); share y: set; spawn f(x, n); put x [99] {111111111, 111111112, 111111113, 111111114}; put x [99] {m}; put y {1}; } task f(x: map(set), n: int) { if n > 0 { spawn f(x, n - 1); put x [n] {123456781, 123456782, 123456783, 123456784}; put x [n] {100000001, 100000002}; } }"
	for in, length := range map[[2]int]int{{34, 999999999}: api.MaxText, {34, 1000000000}: 0, {35, 5}: 0, {39, 5}: 0} {
		got, e := tell.Tell(program(t, s), in[:])
		lines := strings.Split(got, "\n")
		if e != api.OK || len(lines) != 4 || lines[2] != "var main 1 set = {1}" {
			t.Fatalf("Tell of %d keys: %v\n%s", in, e, got)
		}
		value, found := strings.CutPrefix(lines[1], "var main 0 map(set) = ")
		if !found || len(value) != length {
			t.Errorf("Tell of %d keys: %d bytes", in, len(value))
		}
	}
}
