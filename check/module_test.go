package check_test

import (
	"math/rand"
	"slices"
	"strings"
	"testing"

	"dripstone/api"
	"dripstone/check"
)

// known is a text with a mark where Module tells an error, at a node of a kind; api.OK: it is a module.
type known struct {
	text string
	kind uint8
	e    api.Errno
}

func testKnown(t *testing.T, l []known) {
	t.Helper()
	for _, k := range l {
		x, want := marked(t, k.text, k.kind)
		if (want == 0) != (k.e == api.OK) {
			t.Errorf("no mark, or one too many: %q", k.text)
		}
		if node, e := check.Module(x); node != want || e != k.e {
			t.Errorf("Module of %q: %v at %d, not %v at %d", k.text, e, node, k.e, want)
		}
	}
}

// lattices returns the texts of lattices with some names.
func lattices(names string) string {
	var b strings.Builder
	for _, name := range names {
		b.WriteString("lattice " + string(name) + " { a } ")
	}
	return b.String()
}

// P5.1: names that are there twice.
func TestTwice(t *testing.T) {
	testKnown(t, []known{
		{"lattice a { b } ^lattice a { b }", api.LatticeItem, api.ErrTwice},
		{"lattice a { b } lattice c { b } task a() { } use c();", 0, api.OK},
		{"lattice a { a: b; b }", 0, api.OK},
		{"task f() { } ^task f() { }", api.TaskItem, api.ErrTwice},
		{"use f(); ^task f() { }", api.TaskItem, api.ErrTwice},
		{"task f() { } ^use f();", api.UseItem, api.ErrTwice},
		{"use f(); ^use f();", api.UseItem, api.ErrTwice},
		{"lattice a { b: c; c; ^b }", api.ElemNode, api.ErrTwice},
		{"task f(a: int, ^a: set) { }", api.ParamNode, api.ErrTwice},
		{"task f(a: int) { ^new a: set; }", api.NewStmt, api.ErrTwice},
		{"task f(a: int) { ^share a: set; }", api.ShareStmt, api.ErrTwice},
		{"task f(a: int) { ^let a = 1; }", api.LetStmt, api.ErrTwice},
		{"task f(a: int) { new x: set; freeze x as ^a; }", api.BindNode, api.ErrTwice},
		{"task f(a: int) { new x: set; all { each x as ^a { } } }", api.BindNode, api.ErrTwice},
		{"task f() { new x: set; all { each x as ^x { } } }", api.BindNode, api.ErrTwice},
		{"task f() { all { new a: set; } ^new a: set; }", api.NewStmt, api.ErrTwice},
		{"task f(n: int) { if n { let a = 1; } else { ^let a = 1; } }", api.LetStmt, api.ErrTwice},
		{"task f() { new x: set; all { each x as a { } each x as ^a { } } }", api.BindNode, api.ErrTwice},
		{"task f() { new f: set; let g = 1; } task g() { let f = 1; let g = 2; }", 0, api.OK},
		{"lattice a { b } task f(a: a) { new b: a; }", 0, api.OK},
	})
}

// P5.1: what is in sight, and what is not.
func TestNames(t *testing.T) {
	testKnown(t, []known{
		{"task f() { ^put x {1}; }", api.PutStmt, api.ErrName},
		{"task f() { ^when x {1} { } }", api.WhenStmt, api.ErrName},
		{"task f() { all { ^each x as k { } } }", api.EachStmt, api.ErrName},
		{"task f() { ^freeze x as y; }", api.FreezeStmt, api.ErrName},
		{"task f() { fail ^x; }", api.NameNode, api.ErrName},
		{"task f() { fail ^size(x); }", api.SizeNode, api.ErrName},
		{"task f() { fail ^has(x, 1); }", api.HasNode, api.ErrName},
		{"task f() { fail ^value(x, 1); }", api.ValueNode, api.ErrName},
		{"task f() { ^spawn g(); }", api.SpawnStmt, api.ErrName},
		{"task f() { spawn f(); spawn g(); } task g() { spawn f(); }", 0, api.OK},
		{"use f(set, ^a);", api.NamedType, api.ErrName},
		{"task f(x: map(pair(flag, ^a))) { }", api.NamedType, api.ErrName},
		{"task f() { new x: ^a; }", api.NamedType, api.ErrName},
		{"task f() { share x: ^a; } task a() { }", api.NamedType, api.ErrName},
		{"task f() { share x: a; } lattice a { b }", 0, api.OK},
		{"lattice a { b: ^c }", api.AboveNode, api.ErrName},
		{"lattice a { b: ^e } lattice d { e }", api.AboveNode, api.ErrName},
		{"lattice a { b: ^a }", api.AboveNode, api.ErrName},
		{"task f() { ^put x {1}; new x: set; }", api.PutStmt, api.ErrName},
		{"task f() { let a = ^a; }", api.NameNode, api.ErrName},
		{"task f() { let a = 1; let b = a; }", 0, api.OK},
		{"task f() { all { new x: set; all { put x {1}; } } ^put x {1}; }", api.PutStmt, api.ErrName},
		{"task f(n: int) { if n { let a = 1; } else { fail ^a; } }", api.NameNode, api.ErrName},
		{"task f(x: once) { when x 1 { let a = 1; } or 2 { fail ^a; } }", api.NameNode, api.ErrName},
		{"task f(x: once) { when x 1 { fail 1; } or ^b { let b = 1; } }", api.NameNode, api.ErrName},
		{"task f() { new x: set; all { each x as k { fail k; } fail ^k; } }", api.NameNode, api.ErrName},
		{"task f() { new x: set; all { fail ^k; each x as k { } } }", api.NameNode, api.ErrName},
		{"task f() { new x: set; fail ^size(y); freeze x as y; }", api.SizeNode, api.ErrName},
		{"task f() { new x: set; all { freeze x as y; all { fail size(y); } } fail ^size(y); }", api.SizeNode, api.ErrName},
		{"task f(a: int) { } task g() { fail ^a; }", api.NameNode, api.ErrName},
		{"task f() { new x: set; all { each x as k { let a = k; put x {a}; all { put x {a + k}; } } } }", 0, api.OK},
	})
}

// P5.1: lattices, and shapes.
func TestLatticesAndShapes(t *testing.T) {
	testKnown(t, []known{
		{lattices("abcdefgh"), 0, api.OK},
		{lattices("abcdefgh") + "^lattice i { a } lattice j { a }", api.LatticeItem, api.ErrLimit},
		{lattices("abcdefgh") + "^lattice i { a; b }", api.LatticeItem, api.ErrLimit},
		{lattices("abcdefg") + "^lattice h { a; b } lattice i { a }", api.LatticeItem, api.ErrFalse},
		{"^lattice a { b; c }", api.LatticeItem, api.ErrFalse},
		{"^lattice a { b! }", api.LatticeItem, api.ErrFalse},
		{"^lattice a { b: b }", api.LatticeItem, api.ErrFalse},
		{"^lattice a { b: c, d; c: e, f; d: e, f; e; f }", api.LatticeItem, api.ErrFalse},
		{"lattice a { b: c, d, c; c: e; d: e; e! }", 0, api.OK},
		{"use f(map(map(map(set))));", 0, api.OK},
		{"use f(int, ^map(map(map(map(set)))));", api.MapType, api.ErrLimit},
		{"use f(^map(map(map(map(map(map(set)))))));", api.MapType, api.ErrLimit},
		{"task f(x: ^pair(flag, map(pair(set, map(set))))) { }", api.PairType, api.ErrLimit},
		{"task f(x: pair(map(map(set)), map(pair(set, max)))) { }", 0, api.OK},
		{"task f() { new x: ^map(map(pair(flag, pair(set, set)))); }", api.MapType, api.ErrLimit},
		{"task f() { share x: ^map(map(map(map(a)))); } lattice a { b }", api.MapType, api.ErrLimit},
	})
}

// P5.1: what statements and exprs need.
func TestTypes(t *testing.T) {
	testKnown(t, []known{
		{"task f(a: int) { ^put a 1; }", api.PutStmt, api.ErrType},
		{"task f() { let a = 1; ^when a 1 { } }", api.WhenStmt, api.ErrType},
		{"task f() { new x: set; all { each x as k { ^each k as i { } } } }", api.EachStmt, api.ErrType},
		{"task f() { new x: set; freeze x as y; ^freeze y as z; }", api.FreezeStmt, api.ErrType},
		{"task f() { new x: set; freeze x as y; ^put y {1}; }", api.PutStmt, api.ErrType},
		{"task f() { new x: set; freeze x as y; all { ^each y as k { } } }", api.EachStmt, api.ErrType},
		{"task f() { new x: max; all { ^each x as k { } } }", api.EachStmt, api.ErrType},
		{"task f() { new x: pair(set, set); all { ^each x as k { } } }", api.EachStmt, api.ErrType},
		{"task f() { new x: map(max); all { each x as k { } } }", 0, api.OK},
		{"task f(x: set) { fail ^x; }", api.NameNode, api.ErrType},
		{"task f() { new x: max; freeze x as y; fail ^y; }", api.NameNode, api.ErrType},
		{"task f() { new x: set; all { each x as k { fail k; } } }", 0, api.OK},
		{"task f(x: set) { put x {1, ^x}; }", api.NameNode, api.ErrType},
		{"task f(x: set) { fail ^size(x); }", api.SizeNode, api.ErrType},
		{"task f(x: int) { fail ^size(x); }", api.SizeNode, api.ErrType},
		{"task f() { new x: max; freeze x as y; fail ^size(y); }", api.SizeNode, api.ErrType},
		{"task f() { new x: pair(set, set); freeze x as y; fail ^has(y, 1); }", api.HasNode, api.ErrType},
		{"task f() { new x: once; freeze x as y; fail ^has(y, 1); }", api.HasNode, api.ErrType},
		{"task f() { new x: flag; freeze x as y; fail ^value(y, 1); }", api.ValueNode, api.ErrType},
		{"task f() { new x: map(once); freeze x as y; fail ^value(y, 1); }", api.ValueNode, api.ErrType},
		{"task f(x: once) { fail ^value(x, 1); }", api.ValueNode, api.ErrType},
		{"task f() { new x: set; freeze x as y; fail size(y) + has(y, size(y)); }", 0, api.OK},
		{"task f() { new x: map(flag); freeze x as y; fail size(y) + has(y, 1); }", 0, api.OK},
		{"task f() { new x: max; new y: once; freeze x as u; freeze y as w; fail value(u, value(w, 1)); }", 0, api.OK},
	})
}

// P5.1: what is handed to tasks.
func TestSpawns(t *testing.T) {
	testKnown(t, []known{
		{"task f(a: int) { ^spawn f(); }", api.SpawnStmt, api.ErrType},
		{"task f(a: int) { ^spawn f(a, a); }", api.SpawnStmt, api.ErrType},
		{"task f(a: set) { ^spawn f(1, 2); }", api.SpawnStmt, api.ErrType},
		{"use g(int, set); task f(a: set) { ^spawn g(1); }", api.SpawnStmt, api.ErrType},
		{"use g(int, set); task f(a: set) { spawn g(1, a); }", 0, api.OK},
		{"use g(); task f(a: set) { ^spawn g(a); }", api.SpawnStmt, api.ErrType},
		{"task f(a: set) { spawn f(^1); }", api.NumNode, api.ErrType},
		{"task f(a: set) { spawn f(^-a); }", api.NegNode, api.ErrType},
		{"task f(a: set) { spawn f(a ^+ a); }", api.AddNode, api.ErrType},
		{"task f(a: set, n: int) { spawn f(^n, n); }", api.NameNode, api.ErrType},
		{"task f(a: set, n: int) { spawn f(a, ^a); }", api.NameNode, api.ErrType},
		{"task f(a: set, n: int) { spawn f(a, n + ^a); }", api.NameNode, api.ErrType},
		{"task f(a: set, n: int) { spawn f(a, -n); }", 0, api.OK},
		{"task f(a: set, b: max) { spawn f(^b, b); }", api.NameNode, api.ErrType},
		{"task f(a: map(set), b: map(max)) { spawn f(a, ^a); }", api.NameNode, api.ErrType},
		{"task f(a: pair(set, max), b: pair(max, set)) { spawn f(a, ^a); }", api.NameNode, api.ErrType},
		{tint + "lattice tone { none } task f(a: tint, b: tone) { spawn f(^b, b); }", api.NameNode, api.ErrType},
		{tint + "task f(a: map(tint), b: map(tint)) { spawn f(b, a); }", 0, api.OK},
		{"task f(a: set) { new x: set; freeze x as y; spawn f(^y); }", api.NameNode, api.ErrType},
		{"task f(a: set) { new x: set; freeze x as y; spawn f(^size(y)); }", api.SizeNode, api.ErrType},
		{"task f(a: set) { new x: set; freeze x as y; spawn f(^has(y, 1)); }", api.HasNode, api.ErrType},
		{"task f(a: set) { new x: max; freeze x as y; spawn f(^value(y, 1)); }", api.ValueNode, api.ErrType},
		{"task f(a: set) { share x: set; spawn f(x); all { new y: set; spawn f(y); } }", 0, api.OK},
		{"use g(int); task f(a: set) { spawn g(^a); }", api.NameNode, api.ErrType},
		{"use g(max); task f(a: set) { spawn g(^a); }", api.NameNode, api.ErrType},
	})
}

// P5.1: points that do not fit. The error is at the first one that is not of the right kind.
func TestPointsThatDoNotFit(t *testing.T) {
	shapes := []string{"flag", "max", "once", "set", "tint", "map(flag)", "pair(flag, max)"}
	points := []struct {
		text string
		kind uint8
		fits []string
	}{
		{"on", api.OnPoint, shapes[:1]}, {"1", api.IntPoint, shapes[1:3]}, {"{1, 2}", api.SetPoint, shapes[3:4]}, {"#red", api.NamePoint, shapes[4:5]}, {"[1] on", api.KeyPoint, shapes[5:6]}, {"pair(on, 1)", api.PairPoint, shapes[6:]},
	}
	for _, s := range shapes {
		for _, p := range points {
			e := api.ErrType
			mark := "^"
			if slices.Contains(p.fits, s) {
				e, mark = api.OK, ""
			}
			testKnown(t, []known{
				{tint + "task f(x: " + s + ") { put x " + mark + p.text + "; }", p.kind, e},
				{tint + "task f(x: map(" + s + ")) { put x [1] " + mark + p.text + "; }", p.kind, e},
				{tint + "task f(x: pair(" + s + ", set)) { put x pair(" + mark + p.text + ", ); }", p.kind, e},
				{tint + "task f(x: pair(set, " + s + ")) { put x pair({1}, " + mark + p.text + "); put x pair(, " + p.text + "); }", p.kind, e},
				{tint + "task f() { share x: " + s + "; when x " + mark + p.text + " { } }", p.kind, e},
			})
		}
	}
	testKnown(t, []known{
		{tint + "task f(x: tint) { put x ^#none; }", api.NamePoint, api.ErrType},
		{tint + "task f(x: tint) { put x ^#green; }", api.NamePoint, api.ErrType},
		{tint + "task f(x: tint) { put x ^#tint; }", api.NamePoint, api.ErrType},
		{tint + "lattice tone { a: b; b } task f(x: tint) { put x ^#b; }", api.NamePoint, api.ErrType},
		{tint + "task f(x: pair(tint, flag)) { put x pair(^#none, 1); }", api.NamePoint, api.ErrType},
		{tint + "task f(x: pair(flag, tint)) { put x pair(^1, #none); }", api.IntPoint, api.ErrType},
		{"task f(x: map(flag)) { put x ^pair([1] on, on); }", api.PairPoint, api.ErrType},
		{"task f(x: set) { put x ^[1] #red; }", api.KeyPoint, api.ErrType},
		{"task f(x: map(map(set))) { put x [1] [2] ^on; }", api.OnPoint, api.ErrType},
		{"task f(x: pair(set, flag)) { put x pair(, ^{1}); }", api.SetPoint, api.ErrType},
		{"task f(x: pair(set, flag)) { put x pair(^on, ); }", api.OnPoint, api.ErrType},
		{"task f(x: pair(set, flag), s: set) { put x pair({^s}, 1); }", api.NameNode, api.ErrType},
		{"task f(x: once) { when x 1 { } or ^on { } }", api.OnPoint, api.ErrType},
		{"task f(x: tint) { put x ^#none; } lattice tint { none; red }", api.NamePoint, api.ErrType},
		{"task f(x: tint) { put x #red; } ^lattice tint { none; red }", api.LatticeItem, api.ErrFalse},
	})
}

// P5.1: own variables that are passed on, looked out for and frozen.
func TestGrowth(t *testing.T) {
	g := " use g(set); use h(set, set);"
	var l []known
	for _, k := range []known{
		// (a)
		{"task f(x: set) { ^freeze x as y; }", api.FreezeStmt, api.ErrState},
		{"task f() { share x: set; ^freeze x as y; }", api.FreezeStmt, api.ErrState},
		{"task f() { share x: set; all { ^each x as k { } } }", api.EachStmt, api.ErrState},
		{"task f(x: set) { all { ^each x as k { } } }", api.EachStmt, api.ErrState},
		{"task f() { new x: set; ^each x as k { } }", api.EachStmt, api.ErrState},
		{"task f() { new x: set; new y: set; all { each x as k { ^each y as i { } } } }", api.EachStmt, api.ErrState},
		{"task f() { new x: set; new y: set; all { each x as k { all { ^each y as i { } } } } }", api.EachStmt, api.ErrState},
		{"task f() { new x: set; new y: set; all { each x as k { ^freeze y as z; } } }", api.FreezeStmt, api.ErrState},
		{"task f() { new x: set; all { each x as k { new y: set; ^each y as i { } } } }", api.EachStmt, api.ErrState},
		{"task f() { new x: set; all { each x as k { new y: set; all { each y as i { } } freeze y as z; } } }", 0, api.OK},
		{"task f() { new x: set; freeze x as y; }", 0, api.OK},
		{"task f(n: int) { new x: set; if n { freeze x as y; } }", 0, api.OK},
		// (b)
		{"task f() { new x: set; spawn g(^x); }", api.NameNode, api.ErrState},
		{"task f() { new x: set; share y: set; spawn h(y, ^x); }", api.NameNode, api.ErrState},
		{"task f() { new x: set; all { } spawn g(^x); }", api.NameNode, api.ErrState},
		{"task f(n: int) { new x: set; all { if n { spawn g(x); } } }", 0, api.OK},
		{"task f(x: set) { share y: set; spawn h(x, y); }", 0, api.OK},
		{"task f() { new x: set; all { each x as k { spawn g(x); } } }", 0, api.OK},
		{"task f() { new x: set; all { each x as k { new y: set; spawn g(^y); } } }", api.NameNode, api.ErrState},
		{"task f() { new x: set; all { each x as k { new y: set; all { spawn g(y); } } } }", 0, api.OK},
		// (c)
		{"task f() { new x: set; all { spawn g(x); ^freeze x as y; } }", api.FreezeStmt, api.ErrState},
		{"task f() { new x: set; all { spawn g(x); all { ^freeze x as y; } } }", api.FreezeStmt, api.ErrState},
		{"task f() { new x: set; all { all { spawn g(x); } freeze x as y; } }", 0, api.OK},
		{"task f() { new x: set; all { all { spawn g(x); } } all { freeze x as y; } }", 0, api.OK},
		{"task f() { new x: set; new w: set; all { spawn g(w); freeze x as y; } }", 0, api.OK},
		{"task f() { new x: set; all { freeze x as y; } all { all { spawn g(^x); } } }", api.NameNode, api.ErrState},
		{"task f() { new x: set; all { each x as k { } ^freeze x as y; } }", api.FreezeStmt, api.ErrState},
		{"task f() { new x: set; all { each x as k { } } freeze x as y; }", 0, api.OK},
		{"task f() { new x: set; new y: set; all { each x as k { put y {k}; } ^freeze y as z; } }", api.FreezeStmt, api.ErrState},
		{"task f() { new x: set; new y: set; all { each x as k { when y {k} { } } ^freeze y as z; } }", api.FreezeStmt, api.ErrState},
		{"task f() { new x: set; new y: set; all { each x as k { all { spawn g(y); } } ^freeze y as z; } }", api.FreezeStmt, api.ErrState},
		{"task f() { new x: set; new y: set; all { each x as k { new w: set; all { each w as i { put y {i}; } } } ^freeze y as z; } }", api.FreezeStmt, api.ErrState},
		{"task f() { new x: set; new y: set; all { each x as k { put x {k}; } freeze y as z; } }", 0, api.OK},
		{"task f() { new x: set; all { spawn g(x); each x as k { } } }", 0, api.OK},
		{"task f() { new x: set; all { spawn g(x); all { ^each x as k { } } } }", api.EachStmt, api.ErrState},
		{"task f() { new x: set; all { all { spawn g(x); } each x as k { } } }", 0, api.OK},
		{"task f() { new x: set; all { all { spawn g(x); } all { each x as k { } } } }", 0, api.OK},
		{"task f() { new x: set; all { all { spawn g(x); all { ^each x as k { } } } } }", api.EachStmt, api.ErrState},
		{"task f() { new x: set; all { each x as k { } each x as i { } } }", 0, api.OK},
		{"task f() { new x: set; all { each x as k { } all { ^each x as i { } } } }", api.EachStmt, api.ErrState},
		{"task f() { new x: set; all { each x as k { } } all { each x as i { } } }", 0, api.OK},
		{"task f() { new x: set; new y: set; all { each x as k { put y {k}; } each y as i { put x {i}; } } freeze y as z; freeze x as w; }", 0, api.OK},
		{"task f() { new x: set; all { each x as k { spawn g(x); all { } } each x as i { all { new y: set; spawn g(y); } } } freeze x as z; }", 0, api.OK},
		// (d)
		{"task f() { new x: set; freeze x as y; ^put x {1}; }", api.PutStmt, api.ErrState},
		{"task f() { new x: set; freeze x as y; ^when x {1} { } }", api.WhenStmt, api.ErrState},
		{"task f() { new x: set; freeze x as y; all { ^each x as k { } } }", api.EachStmt, api.ErrState},
		{"task f() { new x: set; freeze x as y; ^freeze x as z; }", api.FreezeStmt, api.ErrState},
		{"task f() { new x: set; freeze x as y; all { spawn g(^x); } }", api.NameNode, api.ErrState},
		{"task f() { new x: set; new w: set; freeze x as y; all { each w as k { ^put x {k}; } } }", api.PutStmt, api.ErrState},
		{"task f(n: int) { new x: set; if n { freeze x as y; } else { ^put x {1}; } }", api.PutStmt, api.ErrState},
		{"task f(n: int) { new x: set; if n { freeze x as y; } ^put x {1}; }", api.PutStmt, api.ErrState},
		{"task f() { new x: set; new w: set; freeze x as y; put w {size(y)}; freeze w as z; } task i() { new x: set; put x {1}; }", 0, api.OK},
	} {
		l = append(l, known{k.text + g, k.kind, k.e})
	}
	testKnown(t, l)
}

// P5.1: cases of a when.
func TestCases(t *testing.T) {
	for _, k := range []struct {
		shape, cases string
		which        int // of the CaseNodes has the error, -1: none
	}{
		{"max", "1 { } or 2 { }", 1}, {"set", "{1} { } or {2} { }", 1}, {"flag", "on { } or on { }", 1},
		{"once", "1 { } or 2 { } or 3 { } or 4 { }", -1}, {"once", "1 { } or 2 { } or 1 { }", 2}, {"once", "1 { } or -1 { }", -1}, {"once", "-0 { } or 0 { }", 1}, {"once", "0 { } or 1 { }", -1},
		{"once", "n { }", -1}, {"once", "n { } or 2 { }", 0}, {"once", "1 { } or n { }", 1}, {"once", "1 { } or 1 + 1 { }", 1}, {"once", "1 { } or --2 { }", 1}, {"once", "1 { } or -n { }", 1}, {"once", "1 { } or (2) { }", -1},
		{"set", "{1, n} { }", -1}, {"map(once)", "[n] 1 { } or [n] 2 { }", 0}, {"map(once)", "[1] n { } or [1] 2 { }", 0},
		{"map(once)", "[1] 1 { } or [1] 2 { } or [1] -1 { }", -1}, {"map(once)", "[1] 1 { } or [2] 2 { }", 1}, {"map(once)", "[1] 1 { } or [1] 2 { } or [-1] 1 { }", 2},
		{"pair(once, flag)", "pair(1, ) { } or pair(2, on) { }", -1}, {"pair(once, flag)", "pair(1, on) { } or pair(, on) { }", 1}, {"pair(once, once)", "pair(1, 2) { } or pair(2, ) { } or pair(3, 5) { }", -1},
		{"tint", "#red { } or #blue { }", -1}, {"tint", "#red { } or #red { }", 1}, {"tint", "#both { }", 0}, {"tint", "#red { } or #both { }", 1}, {"map(tint)", "[n] #both { }", 0}, {"pair(tint, set)", "pair(#both, {n, n + 1}) { }", 0},
		{"pair(tint, once)", "pair(#red, n) { }", -1}, {"pair(set, map(tint))", "pair({n}, [n] #red) { }", -1}, {"map(map(tint))", "[1] [2] #red { } or [1] [2] #blue { }", -1}, {"map(map(tint))", "[1] [2] #red { } or [1] [3] #blue { }", 1},
	} {
		x := parsed(t, tint+"task f(x: "+k.shape+", n: int) { when x "+k.cases+" }")
		want, wanted := 0, api.OK
		if k.which >= 0 {
			want, wanted = nodes(x, api.CaseNode)[k.which], api.ErrFalse
		}
		if node, e := check.Module(x); node != want || e != wanted {
			t.Errorf("Module of a %s with %s: %v at %d, not %v at %d", k.shape, k.cases, e, node, wanted, want)
		}
	}
	testKnown(t, []known{{tint + "task f(x: tint) { put x #both; }", 0, api.OK}})
}

// P5.1: names come before types, and these before growth, wherever they stand; of a group the first node does.
func TestOrderOfErrors(t *testing.T) {
	testKnown(t, []known{
		{"^lattice l { a; b } task f(x: set) { freeze x as y; put x on; }", api.LatticeItem, api.ErrFalse},
		{"lattice l { a; b } task f(x: set) { freeze x as y; put x on; fail ^z; }", api.NameNode, api.ErrName},
		{"task f(x: set) { freeze x as y; put x ^on; }", api.OnPoint, api.ErrType},
		{"task f(x: set) { ^freeze x as y; put x {1}; }", api.FreezeStmt, api.ErrState},
		{"task f(x: set) { put x on; fail ^z; new x: set; }", api.NameNode, api.ErrName},
		{"task f(x: set) { put x on; ^new x: set; fail z; }", api.NewStmt, api.ErrTwice},
		{"task f(x: once) { when x 1 { } or 2 { ^freeze x as y; } or 2 { } }", api.FreezeStmt, api.ErrState},
		{"task f(x: set) { put x ^on; } use g(map(map(map(map(set)))));", api.OnPoint, api.ErrType},
		{"use g(^map(map(map(map(set))))); task f(x: set) { put x on; }", api.MapType, api.ErrLimit},
		{"task f(x: set) { ^put n on; let n = 1; }", api.PutStmt, api.ErrName},
		{"task f(x: set, n: int) { ^put n on; }", api.PutStmt, api.ErrType},
		{"task f(x: set, n: int) { ^spawn f(n, x, x); }", api.SpawnStmt, api.ErrType},
	})
	x := parsed(t, "task f(x: once) { when x 1 { } or 1 { freeze x as y; } }")
	if node, e := check.Module(x); e != api.ErrFalse || x.Nodes[node].Kind != api.CaseNode {
		t.Errorf("Module: %v at %d", e, node)
	}
}

// compare compares Module with the model.
func compare(t *testing.T, x api.Tree, count map[api.Errno]int) {
	t.Helper()
	node, e := check.Module(x)
	want, wanted := modelOf(x).first()
	count[e]++
	if node != want || e != wanted {
		t.Fatalf("Module of %s: %v at %d (%s); the model: %v at %d (%s)", shown(x, 0), e, node, shown(x, node), wanted, want, shown(x, want))
	}
}

// P5.1: Module is the model, for programs that are right, nearly right, and changed a little.
func TestModuleIsTheModel(t *testing.T) {
	r := rand.New(rand.NewSource(1))
	count := map[api.Errno]int{}
	for seed := range 250 {
		for _, wild := range []int{0, 8, 30} {
			x := written(seed, wild)
			compare(t, x, count)
			y := mended(x)
			compare(t, y, count)
			for range 3 {
				y = spoilt(r, y)
				compare(t, y, count)
			}
		}
	}
	for _, e := range []api.Errno{api.OK, api.ErrTwice, api.ErrName, api.ErrType, api.ErrState, api.ErrFalse} {
		if count[e] < 40 {
			t.Errorf("%v is met only %d times", e, count[e])
		}
	}
}

// P5.1: the errors of a program come behind those of a module, in their order.
func TestProgram(t *testing.T) {
	for _, k := range []known{
		{example, 0, api.OK}, {"task main() { }", 0, api.OK}, {"task f(x: set) { } task main(n: int, m: int) { }", 0, api.OK},
		{"", 0, api.ErrNone}, {"use main();", 0, api.ErrNone}, {"task f() { } lattice main { a }", 0, api.ErrNone}, {"use main(set); use f();", 0, api.ErrNone},
		{"task main(n: int, ^x: set, y: max) { }", api.ParamNode, api.ErrType}, {"use g(); task main(^x: set) { }", api.ParamNode, api.ErrType},
		{"task main() { } ^use f(); use g();", api.UseItem, api.ErrState}, {"^use f(set); task main(n: int) { }", api.UseItem, api.ErrState},
		{"use g(); task main(x: set) { fail ^z; }", api.NameNode, api.ErrName}, {"task f() { let a = 1; ^let a = 1; }", api.LetStmt, api.ErrTwice}, {"task main(x: set) { ^freeze x as y; }", api.FreezeStmt, api.ErrState},
	} {
		x, want := marked(t, k.text, k.kind)
		if node, e := check.Program(x); node != want || e != k.e {
			t.Errorf("Program of %q: %v at %d, not %v at %d", k.text, e, node, k.e, want)
		}
	}
	for seed := range 200 {
		x := written(seed, 20)
		if node, e := check.Module(x); e != api.OK {
			if at, f := check.Program(x); at != node || f != e {
				t.Errorf("Program of %s: %v at %d, but of Module %v at %d", shown(x, 0), f, at, e, node)
			}
		}
	}
}
