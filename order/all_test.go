package order_test

import (
	"fmt"
	"math"
	"math/rand"
	"slices"
	"strings"
	"testing"

	"dripstone/api"
	"dripstone/order"
)

// answers calls all functions, and returns what they answer.
func answers(x api.Table, l []api.Table, s api.Shape, text string, a, b int) string {
	var out strings.Builder
	say := func(l ...any) { fmt.Fprintf(&out, "%v\n", l) }
	say(order.Check(x))
	broken, e := order.Prove(x)
	say(broken, e)
	reach, e := order.Reach(x, a)
	say(reach, e)
	is, e := order.Below(x, a, b)
	say(is, e)
	join, e := order.Join(x, a, b)
	say(join, e)
	primes, e := order.Primes(x)
	say(primes, e)
	parts, e := order.Parts(x, b)
	say(parts, e)
	high, e := order.Height(x)
	say(high, e)
	slim, e := order.Slim(x)
	say(slim, e)
	written, e := order.Text(x)
	say(written, e)
	read, e := order.Parse(text)
	say(read, e)
	say(order.CheckShape(l, s))
	written, e = order.ShapeText(s)
	say(written, e)
	shape, e := order.ParseShape(text)
	say(shape, e)
	return out.String()
}

// P1, P2: no call panics, whatever the arguments; equal ones get equal results.
func TestEveryCallAnswers(t *testing.T) {
	r := rand.New(rand.NewSource(12))
	var tables []api.Table
	for _, x := range formless(t) {
		tables = append(tables, x)
	}
	for range 300 {
		tables = append(tables, someTable(r))
	}
	shapes := append(shapeless(), nested(3, named("t")), nested(9, named("t")), endless(api.ShapeMap, 1, 0), endless(api.ShapePair, 2, 1), plain(api.ShapeSet))
	texts := []string{"", "\x00", "\xff", " ", "a", "map", "map(a)", diamond, "lattice t { " + strings.Repeat("a; ", 1000), strings.Repeat("lattice ", 1000), strings.Repeat("map(", 1000), strings.Repeat("; ", 1000), strings.Repeat(": ", 1000)}
	numbers := []int{math.MinInt, -1, 0, 1, 2, 11, 12, 64, math.MaxInt}
	for i, x := range tables {
		s, text := shapes[i%len(shapes)], texts[i%len(texts)]
		var l []api.Table
		for range r.Intn(10) {
			l = append(l, tables[r.Intn(len(tables))])
		}
		for _, a := range numbers {
			b := numbers[r.Intn(len(numbers))]
			if answers(x, l, s, text, a, b) != answers(x, l, s, text, a, b) {
				t.Errorf("not the same twice: %v, %v, %q, %d, %d", x, s, text, a, b)
			}
		}
	}
}

// roomy returns a list with spare room that is not empty, and the whole of it.
func roomy[T any](l []T, spare T) (list, whole []T) {
	whole = append(slices.Clone(l), spare, spare, spare)
	return whole[:len(l)], whole
}

// spoil overwrites a list with all its spare room.
func spoil[T any](l []T, with T) {
	for i := range l[:cap(l)] {
		l[:cap(l)][i] = with
	}
}

// P2, R4: lists that are passed stay as they are, and so does their spare room; results are other memory.
func TestListsStay(t *testing.T) {
	for _, s := range []string{diamond, chain, "lattice q { a: b, c, d, e; b: c, e; c: d; d: e; e! }", cycle, "lattice x { a }"} {
		x := read(t, s)
		keep := copied(x)
		var wholeAbove [][]int
		for a := range x.Above {
			var whole []int
			x.Above[a], whole = roomy(x.Above[a], 77)
			wholeAbove = append(wholeAbove, whole)
		}
		above, allAbove := roomy(x.Above, []int{78})
		elems, allElems := roomy(x.Elems, "spare")
		wrong, allWrong := roomy(x.Wrong, true)
		u := api.Table{Name: x.Name, Elems: elems, Above: above, Wrong: wrong}
		tables, allTables := roomy([]api.Table{u}, api.Table{Name: "spare"})
		for a := range u.Elems {
			l, _ := order.Reach(u, a)
			spoil(l, -5)
			l, _ = order.Parts(u, a)
			spoil(l, -5)
			order.Below(u, a, 0)
			order.Join(u, 0, a)
		}
		l, _ := order.Primes(u)
		spoil(l, -5)
		order.Check(u)
		order.Prove(u)
		order.Height(u)
		order.Text(u)
		order.CheckShape(tables, named(u.Name))
		slim, _ := order.Slim(u)
		for _, l := range slim.Above {
			spoil(l, -5)
		}
		spoil(slim.Above, []int{-6})
		spoil(slim.Elems, "changed")
		spoil(slim.Wrong, true)
		for a, whole := range wholeAbove {
			if n := len(keep.Above[a]); !slices.Equal(whole[:n], keep.Above[a]) || !slices.Equal(whole[n:], []int{77, 77, 77}) {
				t.Errorf("%q: Above has changed: %v", s, whole)
			}
		}
		n := len(keep.Elems)
		room := allAbove[n][0] == 78 && allAbove[n+2][0] == 78 && slices.Equal(allElems[n:], []string{"spare", "spare", "spare"}) && slices.Equal(allWrong[n:], []bool{true, true, true}) && allTables[1].Name == "spare" && allTables[3].Name == "spare"
		if !sameTable(u, keep) || !sameTable(tables[0], keep) || !room {
			t.Errorf("%q: the table has changed: %v", s, u)
		}
	}
}

// R4: what is read shares no memory with what is read again, nor do the lists of one result with each other.
func TestResultsAreNew(t *testing.T) {
	for range 2 {
		x := read(t, "lattice q { a: b, c, d; b: d; c: d; d! }")
		y := right(order.Slim(read(t, "lattice q { a: b, c, d; b: d; c: d; d! }")))
		for _, u := range []api.Table{x, y} {
			for a := range u.Above {
				rest := copied(u)
				spoil(u.Above[a], -5)
				for b := range u.Above {
					if b > a && !slices.Equal(u.Above[b], rest.Above[b]) {
						t.Errorf("the lists of %v share memory", rest)
					}
				}
			}
		}
		s, e := order.ParseShape("pair(map(flag), map(flag))")
		if e != api.OK || !sameShape(s, pairOf(mapOf(plain(api.ShapeFlag)), mapOf(plain(api.ShapeFlag)))) {
			t.Fatalf("ParseShape: %v, %v", s, e)
		}
		spoil(s.Kids[0].Kids, plain(77))
		if s.Kids[1].Kids[0].Kind != api.ShapeFlag {
			t.Errorf("the lists of a shape share memory")
		}
		spoil(s.Kids, plain(77))
	}
}

// P2, R4: the kids of shapes stay as they are.
func TestKidsStay(t *testing.T) {
	inner, allInner := roomy([]api.Shape{plain(api.ShapeMax)}, plain(99))
	kids, all := roomy([]api.Shape{mapOf(inner...), named("t")}, plain(98))
	s := api.Shape{Kind: api.ShapePair, Kids: kids}
	order.CheckShape([]api.Table{flat(1)}, s)
	order.ShapeText(s)
	if !sameShape(s, pairOf(mapOf(plain(api.ShapeMax)), named("t"))) || all[2].Kind != 98 || all[4].Kind != 98 || allInner[1].Kind != 99 || allInner[3].Kind != 99 {
		t.Errorf("a shape has changed: %v", s)
	}
}

// R3: nil and empty lists are the same.
func TestNilAndEmpty(t *testing.T) {
	for _, none := range [][]int{nil, {}} {
		x := api.Table{Name: "t", Elems: []string{"a", "b"}, Above: [][]int{{1}, none}, Wrong: []bool{false, true}}
		if b, e := order.Prove(x); b != (api.Break{}) || e != api.OK {
			t.Errorf("Prove of %v: %v, %v", x, b, e)
		}
		if s, e := order.Text(x); s != "lattice t { a: b; b! }" || e != api.OK {
			t.Errorf("Text of %v: %q, %v", x, s, e)
		}
	}
	for _, none := range [][]api.Shape{nil, {}} {
		s := api.Shape{Kind: api.ShapeSet, Kids: none}
		if e := order.CheckShape([]api.Table{}, s); e != api.OK {
			t.Errorf("CheckShape of %v: %v", s, e)
		}
		if text, e := order.ShapeText(s); text != "set" || e != api.OK {
			t.Errorf("ShapeText of %v: %q, %v", s, text, e)
		}
	}
	for _, x := range []api.Table{{Name: "t", Elems: []string{}, Above: [][]int{}, Wrong: []bool{}}, {Name: "t"}} {
		if e := order.Check(x); e != api.ErrForm {
			t.Errorf("Check of %v: %v", x, e)
		}
	}
}
