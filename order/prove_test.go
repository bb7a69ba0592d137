package order_test

import (
	"math"
	"math/rand"
	"slices"
	"strings"
	"testing"

	"dripstone/api"
	"dripstone/order"
)

// flat returns a table of so many elements, none of which is above another one.
func flat(n int) api.Table { return numbered(make([][]int, n), make([]bool, n)) }

// with returns a table that is changed.
func with(t api.Table, change func(*api.Table)) api.Table {
	x := copied(t)
	change(&x)
	return x
}

// formless are tables that have not their form, each by what is wrong with it.
func formless(t *testing.T) map[string]api.Table {
	d := read(t, diamond)
	out := map[string]api.Table{
		"nothing":          {},
		"no elements":      {Name: "t"},
		"too many":         flat(api.MaxElems + 1),
		"many more":        flat(5000),
		"too few Wrong":    with(d, func(x *api.Table) { x.Wrong = x.Wrong[:3] }),
		"too many Wrong":   with(d, func(x *api.Table) { x.Wrong = append(x.Wrong, false) }),
		"too few Above":    with(d, func(x *api.Table) { x.Above = x.Above[:3] }),
		"too many Above":   with(d, func(x *api.Table) { x.Above = append(x.Above, nil) }),
		"too few Elems":    with(d, func(x *api.Table) { x.Elems = x.Elems[:3] }),
		"no Above, Wrong":  with(d, func(x *api.Table) { x.Above, x.Wrong = nil, nil }),
		"twice":            with(d, func(x *api.Table) { x.Elems[3] = "a" }),
		"twice, next":      with(d, func(x *api.Table) { x.Elems[2] = "b" }),
		"above twice":      with(d, func(x *api.Table) { x.Above[0] = []int{1, 1} }),
		"above descending": with(d, func(x *api.Table) { x.Above[0] = []int{2, 1} }),
		"above, later":     with(d, func(x *api.Table) { x.Above[0] = []int{1, 3, 2} }),
		"above too great":  with(d, func(x *api.Table) { x.Above[3] = []int{4} }),
		"above far":        with(d, func(x *api.Table) { x.Above[3] = []int{math.MaxInt} }),
		"above below 0":    with(d, func(x *api.Table) { x.Above[0] = []int{-1, 1} }),
		"above least":      with(d, func(x *api.Table) { x.Above[0] = []int{math.MinInt} }),
		"a cycle as well":  with(d, func(x *api.Table) { x.Above[0] = []int{0, 4} }),
	}
	for _, name := range []string{"", "A", "aB", "1", "1a", "a b", "a_", "a.b", " a", "a ", "a\n", "a\x00", "ä", "aä", "\xff", "a\xff", "a٣", "a-", "a`", "a{", "a/", "a:", "`a", "{a", strings.Repeat("a", 13), strings.Repeat("a", 5000)} {
		out["Name "+name] = with(d, func(x *api.Table) { x.Name = name })
		out["first elem "+name] = with(d, func(x *api.Table) { x.Elems[0] = name })
		out["last elem "+name] = with(d, func(x *api.Table) { x.Elems[3] = name })
	}
	for _, name := range []string{"flag", "max", "set", "once", "map", "pair"} {
		out["Name "+name] = with(d, func(x *api.Table) { x.Name = name })
	}
	return out
}

// P3.1: what has the form.
func TestCheckForm(t *testing.T) {
	d := read(t, diamond)
	full := flat(api.MaxElems)
	for a := range full.Above {
		for b := range full.Above {
			full.Above[a] = append(full.Above[a], b)
		}
	}
	good := []api.Table{
		d, flat(1), flat(api.MaxElems), full, read(t, cycle),
		{Name: "t", Elems: []string{"a"}, Above: [][]int{nil}, Wrong: []bool{true}},
		{Name: "t", Elems: []string{"t"}, Above: [][]int{{0}}, Wrong: []bool{true}},
	}
	for _, name := range []string{"a", "z", "a0", "z9", "az09", "abcdefghijkl", "a12345678901", "task", "int", "lattice", "flags", "pairs", "ma", "named"} {
		good = append(good, with(d, func(x *api.Table) { x.Name = name }))
	}
	for _, name := range []string{"z", "z9", "abcdefghijkl", "flag", "max", "set", "once", "map", "pair", "task", "l"} {
		good = append(good, with(d, func(x *api.Table) { x.Elems[3] = name }))
	}
	for _, x := range good {
		if e := order.Check(x); e != api.OK {
			t.Errorf("Check of %v: %v", x, e)
		}
	}
	for what, x := range formless(t) {
		if e := order.Check(x); e != api.ErrForm {
			t.Errorf("Check, %.30q: %v", what, e)
		}
	}
}

// P3.1 to P3.6: tables without their form have no results, whatever else is wrong.
func TestFormless(t *testing.T) {
	for what, x := range formless(t) {
		for _, a := range []int{math.MinInt, -1, 0, 1, 3, 4, 12, math.MaxInt} {
			b, e := order.Prove(x)
			reach, e1 := order.Reach(x, a)
			is, e2 := order.Below(x, a, 1)
			join, e3 := order.Join(x, a, 1)
			primes, e4 := order.Primes(x)
			parts, e5 := order.Parts(x, a)
			high, e6 := order.Height(x)
			slim, e7 := order.Slim(x)
			text, e8 := order.Text(x)
			if l := []api.Errno{e, e1, e2, e3, e4, e5, e6, e7, e8}; slices.ContainsFunc(l, func(e api.Errno) bool { return e != api.ErrForm }) {
				t.Errorf("%.30q: %v", what, l)
			}
			if b != (api.Break{}) || reach != nil || is || join != 0 || primes != nil || parts != nil || high != 0 || text != "" || !sameTable(slim, api.Table{}) {
				t.Errorf("%.30q: %v, %v, %v, %v, %v, %v, %v, %v, %q", what, b, reach, is, join, primes, parts, high, slim, text)
			}
		}
	}
}

// P3.1: one break of each kind, and which one comes first.
func TestProveTables(t *testing.T) {
	for s, want := range map[string]api.Break{
		diamond: {}, chain: {}, pent: {}, three: {},
		"lattice x { a }":                                              {},
		"lattice x { a: b; b }":                                        {},
		"lattice x { a: b, c, d; b: d; c: d; d! }":                     {},
		"lattice x { a: c, d; b!; c: b; d: b }":                        {},
		"lattice x { a: b; b!: c; c! }":                                {},
		"lattice k { a; b: d; c: d; d! }":                              {Kind: api.BreakBase, A: 1},
		"lattice m { a: b, c; b: d, e; c: d, e; d; e }":                {Kind: api.BreakMany, A: 1, B: 2},
		"lattice n { a: b; b: a }":                                     {Kind: api.BreakCycle},
		"lattice p { a: b; b!: c; c }":                                 {Kind: api.BreakWrong, A: 1, B: 2},
		"lattice x { a! }":                                             {Kind: api.BreakWrong},
		"lattice x { a!: b; b! }":                                      {Kind: api.BreakWrong},
		"lattice x { a!: b; b }":                                       {Kind: api.BreakWrong},
		"lattice x { a!: b; b!: c; c }":                                {Kind: api.BreakWrong},
		"lattice x { a: a }":                                           {Kind: api.BreakCycle},
		"lattice x { a: b; b: b }":                                     {Kind: api.BreakCycle, A: 1},
		"lattice x { a: b; b: c; c: b }":                               {Kind: api.BreakCycle, A: 1},
		"lattice x { a: b; b: c; c: d; d: e; e: d }":                   {Kind: api.BreakCycle, A: 3},
		"lattice x { a; b: c; c: b }":                                  {Kind: api.BreakCycle, A: 1},
		"lattice x { a!; b: c; c: c }":                                 {Kind: api.BreakCycle, A: 2},
		"lattice x { a: b; b: c; c: a }":                               {Kind: api.BreakCycle},
		"lattice x { a; b }":                                           {Kind: api.BreakBase, A: 1},
		"lattice x { a: b; b; c }":                                     {Kind: api.BreakBase, A: 2},
		"lattice x { a: c; b: c; c }":                                  {Kind: api.BreakBase, A: 1},
		"lattice x { a!; b: a }":                                       {Kind: api.BreakBase, A: 1},
		"lattice x { a: b, c, d; b; c; d }":                            {Kind: api.BreakNone, A: 1, B: 2},
		"lattice x { a: b, c, d; b: d; c; d }":                         {Kind: api.BreakNone, A: 1, B: 2},
		"lattice x { a: b, c, d; b: c; c; d }":                         {Kind: api.BreakNone, A: 1, B: 3},
		"lattice x { a!: b, c; b!; c }":                                {Kind: api.BreakNone, A: 1, B: 2},
		"lattice x { a: b, d; b: c, e; c; d: c, e; e }":                {Kind: api.BreakMany, A: 1, B: 3},
		"lattice x { a: b, c; b: d, e; c: d, e; d: f; e: f; f }":       {Kind: api.BreakMany, A: 1, B: 2},
		"lattice x { a: b, c, d; b: d; c: d; d: e, f; e; f }":          {Kind: api.BreakNone, A: 4, B: 5},
		"lattice x { a: b, c; b; c: d, e; d: f, g; e: f, g; f; g }":    {Kind: api.BreakNone, A: 1, B: 2},
		"lattice x { a: c, d; b; c!: b; d!: b }":                       {Kind: api.BreakWrong, A: 2, B: 1},
		"lattice x { a: b; b!: d; c; d!: c }":                          {Kind: api.BreakWrong, A: 1, B: 2},
		"lattice x { a: c; b; c!: b }":                                 {Kind: api.BreakWrong, A: 2, B: 1},
		"lattice x { a: b; b: c; c!: d; d }":                           {Kind: api.BreakWrong, A: 2, B: 3},
		"lattice x { a: b; b!: c; c!: d; d: e; e! }":                   {Kind: api.BreakWrong, A: 1, B: 3},
		"lattice x { a: b, c; b!: d; c: d; d }":                        {Kind: api.BreakWrong, A: 1, B: 3},
		"lattice x { z: a; a: b; b: c; c: d; d: e; e: f; f: g; g: z }": {Kind: api.BreakCycle},
	} {
		b, e := order.Prove(read(t, s))
		if b != want || (e != api.ErrFalse) == (want.Kind != 0) || e != api.OK && e != api.ErrFalse {
			t.Errorf("Prove of %q: %v, %v; not %v", s, b, e, want)
		}
	}
}

// proves tests P3.1 with a table, and tells whether it is a lattice.
func proves(t *testing.T, x api.Table) bool {
	t.Helper()
	want := factsOf(x).first()
	b, e := order.Prove(x)
	if b != want || want.Kind == 0 && e != api.OK || want.Kind != 0 && e != api.ErrFalse {
		t.Errorf("Prove of %v: %v, %v; not %v", x, b, e, want)
	}
	return want.Kind == 0
}

// P3.1: of all small tables, and many others, the break is the first one by the definitions.
func TestProveAgain(t *testing.T) {
	kinds := map[uint8]int{}
	right := 0
	try := func(x api.Table) {
		if proves(t, x) {
			right++
		}
		b, _ := order.Prove(x)
		kinds[b.Kind]++
	}
	for x := range smallTables() {
		try(x)
	}
	r := rand.New(rand.NewSource(1))
	for range 40000 {
		try(someTable(r))
	}
	for kind := uint8(0); kind <= api.BreakWrong; kind++ {
		if kinds[kind] < 500 {
			t.Errorf("only %d tables with breaks of the kind %d", kinds[kind], kind)
		}
	}
	if right < 1000 {
		t.Errorf("only %d lattices", right)
	}
}

// P3.15: a break by a pair is the first one: all pairs before it have joins, as Reach tells.
func TestPairsBefore(t *testing.T) {
	r := rand.New(rand.NewSource(2))
	seen := 0
	for range 20000 {
		x := someTable(r)
		b, _ := order.Prove(x)
		if b.Kind != api.BreakNone && b.Kind != api.BreakMany {
			continue
		}
		seen++
		f := factsOf(x)
		for a := range b.A + 1 {
			for c := a + 1; c < len(x.Elems) && (a < b.A || c < b.B); c++ {
				if l, _ := f.joins(a, c); len(l) != 1 {
					t.Errorf("Prove of %v: %v, but %d and %d have no join", x, b, a, c)
				}
			}
		}
		l, above := f.joins(b.A, b.B)
		if len(l) != 0 || (above == 0) != (b.Kind == api.BreakNone) || b.A >= b.B {
			t.Errorf("Prove of %v: %v, but they have the joins %v, of %d above both", x, b, l, above)
		}
	}
	if seen < 500 {
		t.Errorf("only %d tables with such breaks", seen)
	}
}

// reordered returns a table with its elements in another order: the element a gets the number to[a].
func reordered(t api.Table, to []int) api.Table {
	n := len(t.Elems)
	out := api.Table{Name: t.Name, Elems: make([]string, n), Above: make([][]int, n), Wrong: make([]bool, n)}
	for a, at := range to {
		out.Elems[at], out.Wrong[at] = t.Elems[a], t.Wrong[a]
		for _, up := range t.Above[a] {
			out.Above[at] = append(out.Above[at], to[up])
		}
		slices.Sort(out.Above[at])
	}
	return out
}

// P3.14: with other numbers a table has a break just if it has one now, and the same joins.
func TestOtherNumbers(t *testing.T) {
	r := rand.New(rand.NewSource(3))
	for range 5000 {
		x := someTable(r)
		to := []int{0}
		for _, i := range r.Perm(len(x.Elems) - 1) {
			to = append(to, i+1)
		}
		y := reordered(x, to)
		_, e := order.Prove(x)
		if _, f := order.Prove(y); e != f {
			t.Errorf("Prove of %v: %v; of %v: %v", x, e, y, f)
		}
		for a := range x.Elems {
			b := r.Intn(len(x.Elems))
			j, e := order.Join(x, a, b)
			k, f := order.Join(y, to[a], to[b])
			if e != f || e == api.OK && k != to[j] {
				t.Errorf("Join of %v, %d, %d: %d, %v; of %v: %d, %v", x, a, b, j, e, y, k, f)
			}
		}
	}
}
