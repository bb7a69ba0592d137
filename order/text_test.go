package order_test

import (
	"math/rand"
	"slices"
	"strings"
	"testing"

	"dripstone/api"
	"dripstone/order"
)

// P3.5: the chapter's table, and others.
func TestSlimTables(t *testing.T) {
	for s, want := range map[string]string{
		"lattice q { a: b, c; b: c; c }":                                       "lattice q { a: b; b: c; c }",
		"lattice q { a: b, c, d; b: d; c: d; d! }":                             "lattice q { a: b, c; b: d; c: d; d! }",
		"lattice q { a }":                                                      "lattice q { a }",
		"lattice q { a: b, c, d, e; b: c, e; c: d; d: e; e }":                  "lattice q { a: b; b: c; c: d; d: e; e }",
		"lattice q { z: y, x, w; y; x: y; w: y, x }":                           "lattice q { z: w; y; x: y; w: x }",
		"lattice q { z: y, x; y!; x: y }":                                      "lattice q { z: x; y!; x: y }",
		"lattice q { a: b, c, d, e; b: d, e; c: d, e; d: e; e! }":              "lattice q { a: b, c; b: d; c: d; d: e; e! }",
		"lattice l { a: b, c; b: d; c: d; d! }":                                "lattice l { a: b, c; b: d; c: d; d! }",
		"lattice q { a: b, c, d, e, f; b: f; c: d, e, f; d: e, f; e!: f; f! }": "lattice q { a: b, c; b: f; c: d; d: e; e!: f; f! }",
	} {
		y, e := order.Slim(read(t, s))
		if text, f := order.Text(y); text != want || e != api.OK || f != api.OK {
			t.Errorf("Slim of %q: %q, %v, %v", s, text, e, f)
		}
	}
}

// P3.5, P3.13: Slim keeps what is above what, and the joins, with as few numbers as can be.
func TestSlimAgain(t *testing.T) {
	for _, x := range knownLattices(t) {
		y, e := order.Slim(x)
		f := factsOf(x)
		if e != api.OK || y.Name != x.Name || !slices.Equal(y.Elems, x.Elems) || !slices.Equal(y.Wrong, x.Wrong) || len(y.Above) != len(x.Above) {
			t.Fatalf("Slim of %v: %v, %v", x, y, e)
		}
		for a := range x.Elems {
			if !slices.Equal(y.Above[a], f.next(a)) {
				t.Errorf("Slim of %v: %v above %d; not %v", x, y.Above[a], a, f.next(a))
			}
		}
		if again, e := order.Slim(y); !sameTable(again, y) || e != api.OK {
			t.Errorf("Slim of %v: %v, %v", y, again, e)
		}
	}
	r := rand.New(rand.NewSource(9))
	for x := range lattices(t, 9, 300) {
		y := right(order.Slim(x))
		for a := range x.Elems {
			b := r.Intn(len(x.Elems))
			if right(order.Join(x, a, b)) != right(order.Join(y, a, b)) || !slices.Equal(right(order.Reach(x, a)), right(order.Reach(y, a))) {
				t.Errorf("Slim of %v: %v has other joins, or other elements above %d", x, y, a)
			}
			for i := range y.Above[a] {
				less := with(y, func(z *api.Table) { z.Above[a] = slices.Delete(z.Above[a], i, i+1) })
				if slices.Equal(right(order.Reach(less, a)), right(order.Reach(y, a))) {
					t.Errorf("Slim of %v: %v, but with %v less is above %d", x, y, less, a)
				}
			}
		}
	}
}

// P3.6: texts that are written here.
func TestTextOfTables(t *testing.T) {
	long := "abcdefghijkl"
	for _, x := range []struct {
		t    api.Table
		text string
	}{
		{api.Table{Name: "x", Elems: []string{"a"}, Above: [][]int{{}}, Wrong: []bool{false}}, "lattice x { a }"},
		{api.Table{Name: "x", Elems: []string{"a"}, Above: [][]int{nil}, Wrong: []bool{true}}, "lattice x { a! }"},
		{api.Table{Name: "x", Elems: []string{"a"}, Above: [][]int{{0}}, Wrong: []bool{true}}, "lattice x { a!: a }"},
		{api.Table{Name: "a", Elems: []string{"b", "a"}, Above: [][]int{{0, 1}, nil}, Wrong: []bool{false, true}}, "lattice a { b: b, a; a! }"},
		{api.Table{Name: "lattice", Elems: []string{"map", "lattice", "x9"}, Above: [][]int{{1, 2}, nil, {0}}, Wrong: make([]bool, 3)}, "lattice lattice { map: lattice, x9; lattice; x9: map }"},
		{api.Table{Name: long, Elems: []string{long}, Above: [][]int{nil}, Wrong: []bool{false}}, "lattice abcdefghijkl { abcdefghijkl }"},
		{flat(12), "lattice t { e0; e1; e2; e3; e4; e5; e6; e7; e8; e9; e10; e11 }"},
	} {
		if s, e := order.Text(x.t); s != x.text || e != api.OK {
			t.Errorf("Text of %v: %q, %v", x.t, s, e)
		}
		if u, e := order.Parse(x.text); !sameTable(u, x.t) || e != api.OK {
			t.Errorf("Parse of %q: %v, %v", x.text, u, e)
		}
	}
}

// P3.6: texts of nothing.
func TestParseErrors(t *testing.T) {
	for _, s := range []string{
		"", " ", "lattice", "lattice x", "lattice x {", "lattice x { }", "lattice x {  }", "lattice x { a", "lattice x { a }}", "lattice x {a}", "lattice x { a } ", " lattice x { a }", "lattice x { a }\n",
		"lattice  x { a }", "Lattice x { a }", "table x { a }", "latticex { a }", "x { a }", "lattice { a }", "lattice  { a }", "lattice set { a }", "lattice flag { a }", "lattice pair { a }", "lattice X { a }", "lattice 1 { a }", "lattice abcdefghijklm { a }",
		"lattice x { a; a }", "lattice x { a; }", "lattice x { ; a }", "lattice x { a;b }", "lattice x { a;  b }", "lattice x { a , b }", "lattice x { a, b }", "lattice x { B }", "lattice x { abcdefghijklm }", "lattice x { a b }",
		"lattice x { a !; b }", "lattice x { a!!; b }", "lattice x { !a; b }", "lattice x { ! }", "lattice x { a! : b; b }", "lattice x { a: b!; b! }", "lattice x { a: b !; b }",
		"lattice x { a: ; b }", "lattice x { a:; b }", "lattice x { a:b; b }", "lattice x { a : b; b }", "lattice x { a: b, ; b }", "lattice x { a: b,; b }", "lattice x { a: , b; b }", "lattice x { a: b,b; b }", "lattice x { a: : b; b }", "lattice x { a: a: b; b }", "lattice x { : b; b }",
		"lattice x { a: b }", "lattice x { a: b, b; b }", "lattice x { a: c, b; b; c }", "lattice x { a: b, a; b }", "lattice x { a: e0; b }", "lattice x { a: 1; b }",
		"lattice x { a; b; c; d; e; f; g; h; i; j; k; l; m }", "lattice x { a { b }", "lattice x { a } }", "lattice x { { a }", "lattice x { a\x00 }", "lattice x { ä }", "lattice x { \xff }", "lattice x { a\t}", "lattice x { a: b; b } lattice y { a }", "lattice \xff { a }",
	} {
		if u, e := order.Parse(s); !sameTable(u, api.Table{}) || e != api.ErrForm {
			t.Errorf("Parse of %q: %v, %v", s, u, e)
		}
	}
	for _, s := range []string{"lattice x { " + strings.Repeat("a; ", 100000) + "a }", strings.Repeat("lattice x { ", 100000), "lattice x { a: " + strings.Repeat("a, ", 100000) + "a }", "lattice x { " + strings.Repeat("a", 300000) + " }", strings.Repeat(" }", 100000)} {
		if u, e := order.Parse(s); !sameTable(u, api.Table{}) || e != api.ErrForm {
			t.Errorf("Parse of %.30q: %v, %v", s, u, e)
		}
	}
}

// spoilt returns a text with one byte more, less, or another one.
func spoilt(r *rand.Rand, s, bytes string) string {
	at, c := r.Intn(len(s)), string(bytes[r.Intn(len(bytes))])
	switch r.Intn(3) {
	case 0:
		return s[:at] + c + s[at:]
	case 1:
		return s[:at] + s[at+1:]
	}
	return s[:at] + c + s[at+1:]
}

// P3.6: Parse is the other way of Text, of lattices and of other tables; what it reads at all is the text of that.
func TestTextAndParse(t *testing.T) {
	r := rand.New(rand.NewSource(10))
	read := 0
	for range 5000 {
		x := someTable(r)
		s, e := order.Text(x)
		if y, f := order.Parse(s); !sameTable(x, y) || e != api.OK || f != api.OK {
			t.Fatalf("Text of %v: %q, %v; Parse of it: %v, %v", x, s, e, y, f)
		}
		for range 5 {
			near := spoilt(r, s, "et0123 ,;:!{}\x00\xff")
			y, e := order.Parse(near)
			if e == api.OK {
				read++
				if text, f := order.Text(y); text != near || f != api.OK {
					t.Errorf("Parse of %q: %v, with the text %q, %v", near, y, text, f)
				}
			} else if e != api.ErrForm || !sameTable(y, api.Table{}) {
				t.Errorf("Parse of %q: %v, %v", near, y, e)
			}
		}
	}
	if read < 300 {
		t.Errorf("only %d texts were read that had changed", read)
	}
}

// P3.6: the longest text that there is.
func TestLongestText(t *testing.T) {
	x := flat(api.MaxElems)
	x.Name = "abcdefghijkl"
	for a := range x.Elems {
		x.Elems[a] = "abcdefghijk" + string(rune('a'+a))
		x.Wrong[a] = true
		for b := range x.Elems {
			x.Above[a] = append(x.Above[a], b)
		}
	}
	s, e := order.Text(x)
	if len(s) != len("lattice abcdefghijkl { ")+12*(12+1+2+12*12+11*2)+11*2+2 || e != api.OK {
		t.Errorf("Text of %v: %q, %v", x, s, e)
	}
	if y, e := order.Parse(s); !sameTable(x, y) || e != api.OK {
		t.Errorf("Parse of %q: %v, %v", s, y, e)
	}
}
