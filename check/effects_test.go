package check_test

import (
	"fmt"
	"slices"
	"strings"
	"testing"

	"dripstone/api"
	"dripstone/check"
)

// effectText returns an effect as letters: p, w for each parameter, and f, s.
func effectText(x api.Effect) string {
	var l []string
	for i := range x.Puts {
		s := ""
		if x.Puts[i] {
			s += "p"
		}
		if x.Waits[i] {
			s += "w"
		}
		l = append(l, s)
	}
	s := strings.Join(l, ",") + "/"
	if x.Fails {
		s += "f"
	}
	if x.Spawns {
		s += "s"
	}
	return s
}

func effectsText(t *testing.T, x api.Tree) string {
	t.Helper()
	l, e := check.Effects(x)
	if e != api.OK {
		t.Errorf("Effects of %s: %v", shown(x, 0), e)
	}
	var texts []string
	for _, x := range l {
		if len(x.Puts) != len(x.Waits) {
			t.Errorf("Effects: %v", l)
		}
		texts = append(texts, effectText(x))
	}
	return strings.Join(texts, " ")
}

// P5.7: what tasks do themselves, and by those that they spawn.
func TestEffects(t *testing.T) {
	for _, k := range []struct{ text, want string }{
		{"", ""}, {"lattice a { b }", ""}, {example, "/fs p,/"}, {"task f() { }", "/"}, {"use f();", "/fs"}, {"use f(int, set);", "pw,pw/fs"},
		{"task f(a: set, b: set) { put b {1}; }", ",p/"}, {"task f(a: set, b: set) { when a {1} { when b {1} { put a {1}; } } }", "pw,w/"},
		{"task f(a: set) { new x: set; all { each x as k { put a {k}; } } }", "p/s"}, {"task f(a: set) { new x: set; put x {1}; when x {1} { } freeze x as y; }", "/"},
		{"task f(n: int) { fail n; }", "/f"}, {"task f(n: int) { let a = n + 1; }", "/f"}, {"task f(n: int) { let a = n - 1; }", "/f"}, {"task f(n: int) { let a = n * 1; }", "/f"}, {"task f(n: int) { let a = n / 1; }", "/f"},
		{"task f(n: int) { let a = -n; let b = n == a; let c = n != a; let d = n < a; let g = n <= a; let h = n > a; let i = n >= a; }", "/"},
		{"task f(n: int) { new x: set; new y: max; freeze x as a; freeze y as b; let c = size(a); let d = has(a, n); let g = value(b, n); }", "/"},
		{"task f(x: set, n: int) { if n { put x {n + 1}; } }", "p,/f"}, {"task f(x: set) { when x {1 - 1} { } }", "w/f"},
		{"task f(a: set, b: max) { spawn g(b, a); } task g(c: max, d: set) { put c 1; when d {1} { } }", "w,p/s p,w/"},
		{"task f(a: set) { spawn g(a); } task g(a: set) { spawn h(a); } task h(a: set) { put a {1}; fail 1; }", "p/fs p/fs p/f"},
		{"task f(a: set, b: set, c: set) { spawn f(b, c, a); put a {1}; }", "p,p,p/s"}, {"task f(a: set, b: set) { spawn f(a, a); put b {1}; }", "p,p/s"}, {"task f(a: set, b: set) { spawn f(b, b); put b {1}; }", ",p/s"},
		{"task f(a: set) { spawn g(a); } task g(b: set) { spawn f(b); }", "/s /s"}, {"task f(a: set) { share x: set; spawn g(x); } task g(b: set) { put b {1}; }", "/s p/"},
		{"task f(a: set) { spawn z(a); } use z(set);", "pw/fs pw/fs"}, {"task f(a: set) { share x: set; spawn z(x); } use z(set);", "/fs pw/fs"}, {"task f(n: int) { spawn z(n + 1, -n); } use z(int, int);", "/fs pw,pw/fs"},
		{"task f(n: int) { spawn z(n); } use z(int);", "pw/fs pw/fs"},
		{"task f(a: set) { new x: set; all { each x as k { spawn g(a); } } } task g(b: set) { when b {1} { let c = 1 / 0; } }", "w/fs w/f"},
		{"task f() { fail 1; } lattice l { a } task g() { }", "/f /"},
	} {
		if s := effectsText(t, parsed(t, k.text)); s != k.want {
			t.Errorf("Effects of %q: %s, not %s", k.text, s, k.want)
		}
	}
	for _, m := range modules(300) {
		l, e := check.Effects(m.Tree)
		if want := m.effects(); e != api.OK || !same(l, want) {
			t.Fatalf("Effects of %s: %v, %v, not %v", shown(m.Tree, 0), l, e, want)
		}
	}
}

// less tells whether what a says is not more than what b says.
func less(a, b api.Effect) bool {
	within := func(a, b []bool) bool {
		for i := range a {
			if a[i] && !b[i] {
				return false
			}
		}
		return len(a) == len(b)
	}
	return within(a.Puts, b.Puts) && within(a.Waits, b.Waits) && (!a.Fails || b.Fails) && (!a.Spawns || b.Spawns)
}

// chain returns tasks each of which spawns the next one, and of which the last one has a statement.
func chain(n int, stmt string) []string {
	var l []string
	for i := range n - 1 {
		l = append(l, fmt.Sprintf("task f%d(a: set, b: set) { spawn f%d(b, a); } ", i, i+1))
	}
	return append(l, fmt.Sprintf("task f%d(a: set, b: set) { %s }", n-1, stmt))
}

// P5.7, P5.11: all tasks of a chain do what the last one does, with the parameters that come to it.
func TestEffectsOfChains(t *testing.T) {
	for n := 2; n <= api.MaxItems; n++ {
		for stmt, does := range map[string]string{"put a {1};": "p,/ ,p/", "when a {1} { }": "w,/ ,w/", "fail 1;": ",/f ,/f", "let c = 1;": ",/ ,/"} {
			l := chain(n, stmt)
			var want []string
			for i := range n {
				s := strings.Fields(does)[(n-1-i)%2]
				if i < n-1 {
					s += "s"
				}
				want = append(want, s)
			}
			if s := effectsText(t, parsed(t, strings.Join(l, ""))); s != strings.Join(want, " ") {
				t.Errorf("Effects of %s: %s, not %s", l, s, want)
			}
			slices.Reverse(l)
			slices.Reverse(want)
			if s := effectsText(t, parsed(t, strings.Join(l, ""))); s != strings.Join(want, " ") {
				t.Errorf("Effects of %s: %s, not %s", l, s, want)
			}
		}
	}
}
