package order_test

import (
	"iter"
	"math/rand"
	"strings"
	"testing"

	"dripstone/api"
	"dripstone/order"
)

func plain(kind uint8) api.Shape { return api.Shape{Kind: kind} }

func named(name string) api.Shape { return api.Shape{Kind: api.ShapeNamed, Name: name} }

func mapOf(kids ...api.Shape) api.Shape { return api.Shape{Kind: api.ShapeMap, Kids: kids} }

func pairOf(kids ...api.Shape) api.Shape { return api.Shape{Kind: api.ShapePair, Kids: kids} }

// nested returns a shape in so many maps.
func nested(maps int, s api.Shape) api.Shape {
	for range maps {
		s = mapOf(s)
	}
	return s
}

// endless returns a shape whose kids are, all the way down, its own.
func endless(kind uint8, kids, at int) api.Shape {
	l := make([]api.Shape, kids)
	for i := range l {
		l[i] = plain(api.ShapeFlag)
	}
	l[at] = api.Shape{Kind: kind, Kids: l}
	return l[at]
}

// shapeless are shapes that have not their form, and not too many levels.
func shapeless() []api.Shape {
	flag := plain(api.ShapeFlag)
	bad := []api.Shape{
		{}, {Kind: 8}, {Kind: 255}, {Name: "t"}, {Kind: 8, Name: "t"}, {Kind: 8, Kids: []api.Shape{flag}},
		mapOf(), mapOf(flag, flag), pairOf(), pairOf(flag), pairOf(flag, flag, flag), mapOf(make([]api.Shape, 1000)...),
		{Kind: api.ShapeMap, Name: "t", Kids: []api.Shape{flag}}, {Kind: api.ShapePair, Name: "t", Kids: []api.Shape{flag, flag}},
		{Kind: api.ShapeNamed, Name: "t", Kids: []api.Shape{flag}}, {Kind: api.ShapeMap, Name: "map", Kids: []api.Shape{flag}},
	}
	for _, kind := range []uint8{api.ShapeFlag, api.ShapeMax, api.ShapeSet, api.ShapeOnce} {
		bad = append(bad, api.Shape{Kind: kind, Name: "t"}, api.Shape{Kind: kind, Kids: []api.Shape{flag}})
	}
	for _, name := range []string{"", "flag", "max", "set", "once", "map", "pair", "T", "1", "a b", "aB", "ä", "\xff", "abcdefghijklm"} {
		bad = append(bad, named(name))
	}
	l := bad
	for _, s := range bad {
		l = append(l, mapOf(s), pairOf(s, flag), pairOf(flag, s), pairOf(mapOf(flag), s))
	}
	return l
}

// P3.7, P3.8: shapes without their form.
func TestShapeForm(t *testing.T) {
	l := []api.Table{flat(1)}
	for _, s := range shapeless() {
		if e := order.CheckShape(l, s); e != api.ErrForm {
			t.Errorf("CheckShape of %v: %v", s, e)
		}
		if text, e := order.ShapeText(s); text != "" || e != api.ErrForm {
			t.Errorf("ShapeText of %v: %q, %v", s, text, e)
		}
	}
}

// P3.7, P3.8: levels, the last that there may be and the first that there may not; of shapes that have no form, too.
func TestLevels(t *testing.T) {
	l := []api.Table{flat(1)}
	flag := plain(api.ShapeFlag)
	for _, s := range []api.Shape{flag, named("t"), nested(3, flag), nested(3, named("t")), nested(2, pairOf(flag, flag)), pairOf(nested(2, flag), nested(2, flag)), pairOf(pairOf(pairOf(flag, flag), pairOf(flag, flag)), pairOf(pairOf(flag, flag), pairOf(flag, flag)))} {
		if e := order.CheckShape(l, s); e != api.OK {
			t.Errorf("CheckShape of %v: %v", s, e)
		}
		if text, e := order.ShapeText(s); text == "" || e != api.OK {
			t.Errorf("ShapeText of %v: %q, %v", s, text, e)
		}
	}
	deep := []api.Shape{
		nested(4, flag), nested(4, named("nobody")), nested(4, named("Bad")), nested(4, plain(0)), nested(4, plain(9)), nested(5, flag), nested(1000, flag),
		nested(3, pairOf(flag, flag)), pairOf(flag, nested(3, flag)), pairOf(nested(3, flag), flag), nested(3, api.Shape{Kind: api.ShapeFlag, Kids: []api.Shape{flag}}),
		{Kids: []api.Shape{nested(3, flag)}}, {Kind: 200, Kids: []api.Shape{flag, flag, nested(3, flag)}}, {Kind: api.ShapeNamed, Name: "Bad", Kids: []api.Shape{nested(3, flag)}},
		endless(api.ShapeMap, 1, 0), endless(api.ShapePair, 2, 0), endless(api.ShapePair, 2, 1), endless(0, 50, 49), endless(api.ShapeFlag, 3, 1),
	}
	for i, s := range deep {
		for _, tables := range [][]api.Table{nil, l, {{}}, make([]api.Table, 9), {flat(1), flat(1)}} {
			if e := order.CheckShape(tables, s); e != api.ErrLimit {
				t.Errorf("CheckShape of a shape that is too deep, %d: %v", i, e)
			}
		}
		if text, e := order.ShapeText(s); text != "" || e != api.ErrLimit {
			t.Errorf("ShapeText of a shape that is too deep, %d: %q, %v", i, text, e)
		}
	}
	for _, s := range []api.Shape{nested(3, plain(0)), nested(3, named("Bad")), {Kids: []api.Shape{nested(2, flag)}}} {
		if e := order.CheckShape(l, s); e != api.ErrForm {
			t.Errorf("CheckShape of %v: %v", s, e)
		}
	}
}

// tablesNamed returns tables of one element with some names.
func tablesNamed(names string) []api.Table {
	var l []api.Table
	for _, name := range strings.Fields(names) {
		l = append(l, api.Table{Name: name, Elems: []string{"a"}, Above: [][]int{nil}, Wrong: []bool{false}})
	}
	return l
}

// P3.7: the errors, in their order.
func TestCheckShapeErrors(t *testing.T) {
	flag := plain(api.ShapeFlag)
	full := tablesNamed("a b c d e f g h")
	more := func(l []api.Table, x ...api.Table) []api.Table { return append(append([]api.Table(nil), l...), x...) }
	broken := read(t, "lattice x { a: a }")
	bad := read(t, "lattice b { a! }")
	formless := api.Table{Name: "x"}
	for i, x := range []struct {
		l []api.Table
		s api.Shape
		e api.Errno
	}{
		{nil, flag, api.OK},
		{[]api.Table{}, flag, api.OK},
		{full, flag, api.OK},
		{full, named("h"), api.OK},
		{full, named("a"), api.OK},
		{full, mapOf(pairOf(named("d"), named("e"))), api.OK},
		{[]api.Table{read(t, diamond), read(t, chain)}, pairOf(named("l"), named("c")), api.OK},
		{more(full, tablesNamed("i")...), flag, api.ErrLimit},
		{more(full, broken), flag, api.ErrLimit},
		{make([]api.Table, 9), plain(0), api.ErrLimit},
		{make([]api.Table, 1000), flag, api.ErrLimit},
		{more(full, full...), flag, api.ErrLimit},
		{make([]api.Table, 8), flag, api.ErrForm},
		{more(full[:7], formless), flag, api.ErrForm},
		{more([]api.Table{formless}, full[:7]...), flag, api.ErrForm},
		{[]api.Table{full[0], full[0], formless}, flag, api.ErrForm},
		{[]api.Table{broken, formless}, named("q"), api.ErrForm},
		{[]api.Table{full[0], full[0]}, plain(0), api.ErrForm},
		{[]api.Table{broken}, plain(0), api.ErrForm},
		{[]api.Table{full[0], full[0]}, flag, api.ErrTwice},
		{more(full[:7], full[0]), flag, api.ErrTwice},
		{more(full[:6], broken, broken), flag, api.ErrTwice},
		{[]api.Table{bad, full[1]}, flag, api.ErrTwice},
		{[]api.Table{full[0], full[0]}, named("q"), api.ErrTwice},
		{[]api.Table{broken}, flag, api.ErrFalse},
		{[]api.Table{bad}, named("b"), api.ErrFalse},
		{more(full[:7], broken), flag, api.ErrFalse},
		{more([]api.Table{broken}, full[:7]...), named("q"), api.ErrFalse},
		{nil, named("a"), api.ErrNone},
		{full, named("i"), api.ErrNone},
		{full, mapOf(named("i")), api.ErrNone},
		{full, pairOf(named("a"), named("i")), api.ErrNone},
		{full, pairOf(named("i"), named("a")), api.ErrNone},
		{full, pairOf(flag, mapOf(mapOf(named("aa")))), api.ErrNone},
	} {
		if e := order.CheckShape(x.l, x.s); e != x.e {
			t.Errorf("CheckShape, %d, of %v: %v; not %v", i, x.s, e, x.e)
		}
	}
	for _, s := range []string{diamond, chain, pent, three, cycle, bare, "lattice x { a! }", "lattice p { a: b; b!: c; c }", "lattice k { a; b }"} {
		x := read(t, s)
		_, want := order.Prove(x)
		if e := order.CheckShape([]api.Table{x}, named(x.Name)); e != want {
			t.Errorf("CheckShape with %q: %v; not %v", s, e, want)
		}
	}
}

// allShapes yields all shapes of some leaves with up to so many levels.
func allShapes(levels int, leaves ...api.Shape) iter.Seq[api.Shape] {
	return func(yield func(api.Shape) bool) {
		for _, s := range leaves {
			if !yield(s) {
				return
			}
		}
		if levels == 1 {
			return
		}
		for a := range allShapes(levels-1, leaves...) {
			if !yield(mapOf(a)) {
				return
			}
			for b := range allShapes(levels-1, leaves...) {
				if !yield(pairOf(a, b)) {
					return
				}
			}
		}
	}
}

// written returns the text of a shape that has its form.
func written(s api.Shape) string {
	switch s.Kind {
	case api.ShapeNamed:
		return s.Name
	case api.ShapeMap:
		return "map(" + written(s.Kids[0]) + ")"
	case api.ShapePair:
		return "pair(" + written(s.Kids[0]) + ", " + written(s.Kids[1]) + ")"
	}
	return []string{"", "flag", "max", "set", "once"}[s.Kind]
}

// P3.8: ShapeText writes a shape, and ParseShape is the other way.
func TestShapeTexts(t *testing.T) {
	for _, s := range []api.Shape{plain(api.ShapeMax), plain(api.ShapeSet), plain(api.ShapeOnce), named("maps"), named("abcdefghijkl"), named("lattice"), mapOf(pairOf(plain(api.ShapeFlag), named("l")))} {
		text, e := order.ShapeText(s)
		back, f := order.ParseShape(written(s))
		if text != written(s) || e != api.OK || !sameShape(s, back) || f != api.OK {
			t.Errorf("ShapeText of %v: %q, %v; ParseShape: %v, %v", s, text, e, back, f)
		}
	}
	for s := range allShapes(3, plain(api.ShapeFlag), plain(api.ShapeOnce), named("a1")) {
		text, e := order.ShapeText(s)
		back, f := order.ParseShape(text)
		if text != written(s) || e != api.OK || !sameShape(s, back) || f != api.OK {
			t.Errorf("ShapeText of %v: %q, %v; ParseShape: %v, %v", s, text, e, back, f)
		}
	}
}

// P3.8: texts of no shape, and of one that is too deep.
func TestParseShapeErrors(t *testing.T) {
	for _, s := range []string{
		"", " ", "map", "pair", "map(", "map()", "map(flag", "map(flag))", "map(flag, flag)", "map (flag)", "map( flag)", "map(flag )", "map(flag) ", " map(flag)", "map[flag]",
		"pair()", "pair(flag)", "pair(flag,max)", "pair(flag,  max)", "pair(flag , max)", "pair(flag, max", "pair(flag, max, set)", "pair(, max)", "pair(flag, )", "pair(flag max)", "pair(flag, max))", "pair(flag, max), max", "pair, flag",
		"flag(", "flag()", "flag(max)", "t(flag)", "t()", "flag ", " flag", "flag,", "flag\n", "flag\x00", "Flag", "fläg", "ä", "\xff", "flag\xff", "1", "1a", "abcdefghijklm", "a b", "a;", "a!", "(flag)", "flag flag", ",", ")",
		"map(map)", "map(1)", "map(A)", "pair(map, set)", "pair(map(flag), pair)",
	} {
		if x, e := order.ParseShape(s); !sameShape(x, api.Shape{}) || e != api.ErrForm {
			t.Errorf("ParseShape of %q: %v, %v", s, x, e)
		}
	}
	maps := func(n int, s string) string { return strings.Repeat("map(", n) + s + strings.Repeat(")", n) }
	for s, want := range map[string]api.Errno{
		maps(3, "flag"): api.OK, maps(3, "t"): api.OK, maps(2, "pair(t, t)"): api.OK,
		maps(4, "flag"): api.ErrLimit, maps(4, "t"): api.ErrLimit, maps(3, "pair(t, t)"): api.ErrLimit, "pair(t, " + maps(3, "t") + ")": api.ErrLimit, "pair(" + maps(3, "t") + ", t)": api.ErrLimit, maps(1<<16, "t"): api.ErrLimit,
		maps(4, "T"): api.ErrForm, maps(4, ""): api.ErrForm, maps(4, "abcdefghijklm"): api.ErrForm, maps(4, "flag") + ")": api.ErrForm, maps(4, "pair(t)"): api.ErrForm, "pair(" + maps(4, "t") + ", T)": api.ErrForm, strings.Repeat("map(", 1<<16): api.ErrForm, strings.Repeat("pair(", 1<<16): api.ErrForm, strings.Repeat("a", 1<<20): api.ErrForm,
	} {
		x, e := order.ParseShape(s)
		if e != want || e != api.OK && !sameShape(x, api.Shape{}) || e == api.OK && written(x) != s {
			t.Errorf("ParseShape of %.30q: %v, %v; not %v", s, x, e, want)
		}
	}
}

// P3.8: what ParseShape reads at all has the text that was read.
func TestShapeTextsThatAreSpoilt(t *testing.T) {
	r := rand.New(rand.NewSource(11))
	read := 0
	var texts []string
	for s := range allShapes(3, plain(api.ShapeFlag), named("a1")) {
		for range 20 {
			texts = append(texts, spoilt(r, written(s), "map(1), \xff"))
		}
	}
	for _, near := range texts {
		x, e := order.ParseShape(near)
		switch e {
		case api.OK:
			read++
			if written(x) != near {
				t.Errorf("ParseShape of %q: %v", near, x)
			}
		case api.ErrForm:
			if !sameShape(x, api.Shape{}) {
				t.Errorf("ParseShape of %q: %v, %v", near, x, e)
			}
		default:
			t.Errorf("ParseShape of %q: %v", near, e)
		}
	}
	if read < 50 {
		t.Errorf("only %d texts were read that had changed", read)
	}
}
