package tell_test

import (
	"fmt"
	"math/rand"
	"slices"
	"testing"

	"dripstone/api"
	"dripstone/check"
	"dripstone/elem"
	"dripstone/tell"
)

// P6.4: what there is after each number of steps.
func TestAfter(t *testing.T) {
	for _, c := range []struct {
		s    string
		want []string // after 0 steps, 1, and so on
	}{
		{"task main() { }", []string{"tasks 1, steps 0\n", "tasks 1, steps 0\n"}},
		{"task main() { let a = 1 / 0; let b = 2; }", []string{"tasks 1, steps 0\nfail -1\n", "tasks 1, steps 0\nfail -1\n"}},
		{"task main() { let a = 1; let b = a / 0; }", []string{"tasks 1, steps 0\n", "tasks 1, steps 1\nfail -1\n", "tasks 1, steps 1\nfail -1\n"}},
		{"task main() { fail 5; }", []string{"tasks 1, steps 0\n", "tasks 1, steps 1\nfail 5\n"}},
		{"task main() { share x: flag; when x on { } }", []string{"tasks 1, steps 0\n", "tasks 1, steps 1\nvar main 0 flag = none\nwait main 1\n", "tasks 1, steps 1\nvar main 0 flag = none\nwait main 1\n"}},
		// A task that can go on later waits until then. What fails by an expr between two steps is with the one before: that of main, and then that of f, which can go on only by it.
		{"task main() { share x: flag; all { spawn f(x); when x on { } } let b = 1 / 0; } task f(x: flag) { put x on; put x on; fail 1 / 0; }", []string{
			"tasks 1, steps 0\n",
			"tasks 1, steps 1\nvar main 0 flag = none\n",
			"tasks 2, steps 2\nvar main 0 flag = none\nwait main 3\n",
			"tasks 2, steps 3\nvar main 0 flag = on\n",
			"tasks 2, steps 4\nvar main 0 flag = on\nwait main 1\n",
			"tasks 2, steps 5\nvar main 0 flag = on\nfail -1\n",
			"tasks 2, steps 6\nvar main 0 flag = on\nfail -1\nfail -1\n",
			"tasks 2, steps 6\nvar main 0 flag = on\nfail -1\nfail -1\n",
		}},
		// Several fail between two steps.
		{"task main() { spawn f(); spawn f(); let a = 1 / 0; } task f() { let b = 1000000000 * 2; }", []string{"tasks 1, steps 0\n", "tasks 2, steps 1\n", "tasks 3, steps 2\nfail -2\nfail -2\nfail -1\n"}},
		// What comes by a step comes with it, and an error only with its own.
		{"task main() { new x: set; share o: once; all { each x as k { put o k; } put x {1}; put x {2, 3}; } }", []string{
			"tasks 1, steps 0\n",
			"tasks 1, steps 1\nvar main 0 set = none\n",
			"tasks 1, steps 2\nvar main 0 set = none\nvar main 1 once = none\n",
			"tasks 1, steps 3\nvar main 0 set = none\nvar main 1 once = none\n",
			"tasks 2, steps 4\nvar main 0 set = {1}\nvar main 1 once = none\n",
			"tasks 4, steps 5\nvar main 0 set = {1, 2, 3}\nvar main 1 once = none\nwait main 2\n",
			"tasks 4, steps 6\nvar main 0 set = {1, 2, 3}\nvar main 1 once = 1\nwait main 2\n",
			"",
		}},
	} {
		x := program(t, c.s)
		for steps, want := range c.want {
			o, e := tell.After(x, nil, steps)
			if got := outcomeText(x, o, e); got != want {
				t.Errorf("After %d of %s:\n%s, not\n%s", steps, c.s, got, want)
			}
		}
		for _, steps := range []int{api.MaxSteps, api.MaxSteps + 1, 1 << 60} {
			o, e := tell.After(x, nil, steps)
			if got := outcomeText(x, o, e); got != c.want[len(c.want)-1] {
				t.Errorf("After %d of %s:\n%s", steps, c.s, got)
			}
		}
	}
}

// outcomeText returns the text of an outcome, as Tell writes it; nothing stands for an error.
func outcomeText(x api.Tree, o api.Outcome, e api.Errno) string {
	if e != api.OK {
		return ""
	}
	l, _ := check.Tables(x)
	task := func(path []api.Hop) string {
		s := "main"
		for _, hop := range path {
			s += fmt.Sprintf("/%d:%d", hop.Site, hop.Piece)
		}
		return s
	}
	s := fmt.Sprintf("tasks %d, steps %d\n", o.Tasks, o.Steps)
	for _, v := range o.Vars {
		value, _ := elem.Text(api.Lattice{Tables: l, Shape: v.Shape}, v.E)
		s += fmt.Sprintf("var %s %d %s = %s\n", task(v.Path), v.Site, shapeText(v.Shape), value)
	}
	for _, n := range o.Fails {
		s += fmt.Sprintf("fail %d\n", n)
	}
	for _, w := range o.Waits {
		s += fmt.Sprintf("wait %s %d\n", task(w.Path), w.Site)
	}
	return s
}

// P6.5: the text of the outcome.
func TestTellOfSamples(t *testing.T) {
	for _, s := range samples(200, false) {
		o, e := tell.Run(s.Tree, s.in)
		text, f := tell.Tell(s.Tree, s.in)
		if want := outcomeText(s.Tree, o, e); e != f || text != want {
			t.Fatalf("Tell: %v\n%s, not %v\n%s", f, text, e, want)
		}
	}
}

// P6.4: as the second writing says.
func TestAfterAgainstModel(t *testing.T) {
	for _, s := range samples(80, false) {
		last, _ := tell.Run(s.Tree, s.in)
		for _, steps := range []int{0, 1, 2, 3, 5, 8, 13, 21, 34, 55, 89, last.Steps - 1, last.Steps, last.Steps + 1} {
			if steps < 0 {
				continue
			}
			w, e := lived(s.Tree, s.in, nil, steps)
			o, oe := tell.After(s.Tree, s.in, steps)
			if oe != e || e == api.OK && !same(o, w.outcome()) {
				t.Fatalf("After %d: %v, %+v, not %v, %+v of %s", steps, oe, o, e, w.outcome(), shown(s.Tree, 0))
			}
		}
	}
}

// P6.9: growth.
func TestGrowth(t *testing.T) {
	for _, s := range right(samples(80, false)) {
		l, _ := check.Tables(s.Tree)
		last, _ := tell.Run(s.Tree, s.in)
		before, _ := tell.After(s.Tree, s.in, 0)
		for steps := 0; steps < last.Steps+2+last.Steps/40; steps += 1 + last.Steps/40 {
			o, e := tell.After(s.Tree, s.in, steps)
			if e != api.OK || o.Steps != min(steps, last.Steps) {
				t.Fatalf("After %d: %v, %d steps", steps, e, o.Steps)
			}
			is, e := tell.Below(l, before, o)
			isIn, f := tell.Below(l, o, last)
			if !is || !isIn || e != api.OK || f != api.OK {
				t.Fatalf("After %d is not above the one before, or not below the last one: %v, %v, of %s", steps, e, f, shown(s.Tree, 0))
			}
			before = o
		}
		if !tell.Agree(before, last) {
			t.Fatalf("After all: %+v, not %+v", before, last)
		}
	}
}

// P6.8: any order.
func TestAnyOrder(t *testing.T) {
	wrong := 0
	for i, s := range samples(200, false) {
		o, e := tell.Run(s.Tree, s.in)
		for j := range 12 {
			picks := make([]int, 500)
			for k := range picks {
				picks[k] = (i + k*k*(j+1) + k/(j+1)) % (2 + 7*j)
			}
			if j == 0 {
				picks = slices.Repeat([]int{27720*13*17 - 1}, 500)
			}
			p, f := tell.Order(s.Tree, s.in, picks)
			if (e == api.OK) != (f == api.OK) || e == api.OK && !tell.Agree(o, p) {
				t.Fatalf("Order by %v: %v, %+v, not %v, %+v, of %s", picks, f, p, e, o, shown(s.Tree, 0))
			}
		}
		if e != api.OK {
			wrong++
		}
	}
	if wrong < 10 || wrong > 100 {
		t.Errorf("%d have an error", wrong)
	}
}

// race is a program in which something becomes wrong, unless something else has too many keys before: which one comes first shows who went on. Others fail, wait and look out meanwhile.
const race = "task main() { share d: flag; spawn many(d); spawn wrong(); spawn wait(d); spawn wrong(); spawn look(); spawn bad(d); } task wrong() { let a = 1 / 0; } task wait(d: flag) { when d on { let a = 1; spawn wrong(); spawn wrong(); } } task bad(d: flag) { share x: once; put x 1; let a = 1; let b = 2; put d on; let c = 3; let e = 4; let f = 5; put x 2; } task many(d: flag) { share x: set; put x {1, 2, 3, 4}; put d on; put x {5, 6, 7, 8}; put x {9, 10, 11, 12}; put x {13, 14, 15, 16}; put x {17, 18, 19, 20}; put x {21, 22, 23, 24}; put x {25, 26, 27, 28}; if 1 { put x {29, 30, 31, 32}; put x {33, 34, 35, 36}; put x {37, 38, 39, 40}; put x {41}; } } task look() { new x: set; all { each x as k { if k > 1 { put x {k - 1}; } } put x {3}; } }"

// P6.2: which task is meant by a pick: also a statement that fails by an expr is one that is done, and the first one goes on when there are no more picks.
func TestPicks(t *testing.T) {
	x := program(t, race)
	r := rand.New(rand.NewSource(62))
	count := map[api.Errno]int{}
	for range 1500 {
		picks := make([]int, r.Intn(80))
		for i := range picks {
			picks[i] = r.Intn(1 + r.Intn(60))
		}
		_, want := lived(x, nil, picks, -1)
		_, e := tell.Order(x, nil, picks)
		count[e]++
		if e != want {
			t.Fatalf("Order by %v: %v, not %v", picks, e, want)
		}
	}
	if count[api.ErrFail] < 100 || count[api.ErrLimit] < 100 {
		t.Errorf("the race is always won by the same one: %v", count)
	}
	// Known ones: f, g and h can go on when main has spawned them; f fails, by g a variable becomes wrong, of h there are more and more.
	y := program(t, "task main() { spawn f(); spawn g(); spawn h(); } task f() { let a = 1 / 0; } task g() { share x: once; put x 1; put x 2; } task h() { share x: set; spawn h(); }")
	for _, c := range []struct {
		picks []int
		last  int // again and again
		want  api.Errno
	}{
		{nil, 0, api.ErrFail},
		{[]int{0, 0, 0}, 1, api.ErrFail},
		{[]int{0, 0, 0}, 2, api.ErrLimit},
		{[]int{0, 0, 0}, 5, api.ErrLimit},
		{[]int{0, 0, 0, 0}, 1, api.ErrLimit}, // when f has failed the second one is h
		{[]int{0, 0, 0, 3}, 1, api.ErrLimit},
		{[]int{0, 0, 0, 3}, 2, api.ErrFail},
		{[]int{7, 2, 3}, 4, api.ErrFail},
	} {
		picks := append(c.picks, slices.Repeat([]int{c.last}, 900)...)
		if _, e := tell.Order(y, nil, picks); e != c.want {
			t.Errorf("Order by %v, then %d: %v, not %v", c.picks, c.last, e, c.want)
		}
	}
	if _, e := tell.Order(y, nil, []int{0, 0, 0, 2, 2, 2, 2, 2}); e != api.ErrFail {
		t.Errorf("Order without enough picks: %v", e)
	}
}
