package elem_test

import (
	"iter"
	"math/rand"
	"regexp"
	"slices"
	"strconv"
	"strings"
	"testing"

	"dripstone/api"
	"dripstone/elem"
)

var integer = regexp.MustCompile(`^(0|-?[1-9][0-9]*)`)

// modelParse reads an element at the beginning of a text, and returns what is behind it; false if there is none. It takes keys as they come.
func modelParse(l api.Lattice, s string) (api.Elem, string, bool) {
	if rest, is := strings.CutPrefix(s, "none"); is {
		return none, rest, true
	}
	switch l.Shape.Kind {
	case api.ShapeFlag:
		rest, is := strings.CutPrefix(s, "on")
		return on, rest, is
	case api.ShapeMax, api.ShapeOnce:
		if rest, is := strings.CutPrefix(s, "clash"); is {
			return clash, rest, true
		}
		n, rest, is := modelInteger(s)
		return number(n), rest, is
	case api.ShapeNamed:
		word := regexp.MustCompile(`^#[a-z][a-z0-9]*`).FindString(s)
		return name(slices.Index(tableOf(l).Elems, strings.TrimPrefix(word, "#"))), s[len(word):], word != ""
	case api.ShapePair:
		s, is1 := strings.CutPrefix(s, "(")
		a, s, is2 := modelParse(kidOf(l, 0), s)
		s, is3 := strings.CutPrefix(s, ", ")
		b, s, is4 := modelParse(kidOf(l, 1), s)
		s, is5 := strings.CutPrefix(s, ")")
		return pairOf(a, b), s, is1 && is2 && is3 && is4 && is5
	}
	return modelParseKeys(l, s)
}

// modelParseKeys reads a set or a map.
func modelParseKeys(l api.Lattice, s string) (api.Elem, string, bool) {
	e, before, end := setOf(), "{", "}"
	if l.Shape.Kind == api.ShapeMap {
		e, before, end = mapOf(nil), "[", "]"
	}
	for {
		rest, is := strings.CutPrefix(s, before)
		key, rest, is2 := modelInteger(rest)
		if !is || !is2 {
			return none, "", false
		}
		e.Keys, s, before = append(e.Keys, key), rest, ", "
		if e.Kind == api.ElemMap {
			rest, is := strings.CutPrefix(s, ": ")
			kid, rest, is2 := modelParse(kidOf(l, 0), rest)
			if !is || !is2 {
				return none, "", false
			}
			e.Kids, s = append(e.Kids, kid), rest
		}
		if rest, is := strings.CutPrefix(s, end); is {
			return e, rest, true
		}
	}
}

func modelInteger(s string) (int, string, bool) {
	word := integer.FindString(s)
	n, err := strconv.Atoi(word)
	return n, s[len(word):], err == nil
}

// tryParse tells whether a text is that of an element, after Parse was held against the model.
func tryParse(t *testing.T, l api.Lattice, s string) bool {
	t.Helper()
	want, rest, is := modelParse(l, s)
	is = is && rest == "" && modelHas(l, want) && len(s) <= api.MaxText
	e, err := elem.Parse(l, s)
	switch {
	case is && (err != api.OK || !same(e, want)):
		t.Errorf("Parse of %q: %v, %v; not %v", s, e, err, want)
	case !is && len(s) <= api.MaxText && (err != api.ErrForm || !same(e, none)):
		t.Errorf("Parse of %q: %v, %v; not ErrForm", s, e, err)
	}
	return is
}

// words yields all texts of up to so many of some signs.
func words(most int, signs ...string) iter.Seq[string] {
	return func(yield func(string) bool) {
		list := []string{""}
		for range most {
			var next []string
			for _, s := range list {
				for _, sign := range signs {
					next = append(next, s+sign)
					if !yield(s + sign) {
						return
					}
				}
			}
			list = next
		}
	}
}

// P4.6, P4.13: texts that are written here, those of the chapter among them.
func TestTextsThatAreKnown(t *testing.T) {
	for _, x := range []struct {
		shape string
		e     api.Elem
		want  string
	}{
		{"map(set)", mapOf([]int{1, 4}, setOf(2, 3), setOf(5)), "[1: {2, 3}, 4: {5}]"},
		{"pair(flag, max)", pairOf(on, none), "(on, none)"},
		{"pair(flag, max)", pairOf(on, number(-7)), "(on, -7)"},
		{"once", clash, "clash"}, {"once", number(0), "0"}, {"max", number(1000000000), "1000000000"}, {"max", number(-1000000000), "-1000000000"},
		{"l", name(3), "#d"}, {"l", none, "none"}, {"c", name(1), "#low"}, {"flag", none, "none"}, {"flag", on, "on"}, {"one", none, "none"}, {"set", none, "none"}, {"map(set)", none, "none"}, {"pair(flag, max)", none, "none"},
		{"set", setOf(-12, 0, 9), "{-12, 0, 9}"}, {"set", setOf(3), "{3}"}, {"map(l)", mapOf([]int{-1, 2}, name(1), name(2)), "[-1: #b, 2: #c]"},
		{"pair(map(once), map(set))", pairOf(mapOf([]int{1}, clash), mapOf([]int{2}, setOf(4, 5))), "([1: clash], [2: {4, 5}])"},
		{"map(map(once))", mapOf([]int{1, 2}, mapOf([]int{3}, number(4)), mapOf([]int{5, 6}, number(7), clash)), "[1: [3: 4], 2: [5: 7, 6: clash]]"},
	} {
		l := lattice(x.shape)
		if s, err := elem.Text(l, x.e); s != x.want || err != api.OK {
			t.Errorf("%s: Text of %v: %q, %v", x.shape, x.e, s, err)
		}
		if e, err := elem.Parse(l, x.want); !same(e, x.e) || err != api.OK {
			t.Errorf("%s: Parse of %q: %v, %v", x.shape, x.want, e, err)
		}
	}
}

// P4.6: texts of no element.
func TestTextsOfNone(t *testing.T) {
	for shape, texts := range map[string][]string{
		"flag":                                  {"", " ", "On", "on ", " on", "off", "1", "none ", "nonenone", "#on", "{on}", "clash", "\x00", "\xff", "on\n"},
		"max":                                   {"07", "00", "-0", "+1", "1_0", "0x1", "1.0", "1e3", "- 1", "--1", "1000000001", "-1000000001", "99999999999999999999", "-99999999999999999999", "9223372036854775808", "clash", "on", "1 ", " 1", "#1", "{1}", "١"},
		"once":                                  {"clash ", "Clash", "01", "clashclash", "-", "on"},
		"l":                                     {"#a", "#e", "b", "#", "##b", "# b", "#b ", "#B", "none#b", "1", "#low", "d!", "#d!"},
		"one":                                   {"#clash", "clash", "#"},
		"set":                                   {"{}", "{", "}", "{1", "1}", "1", "{1,2}", "{1,  2}", "{1 , 2}", "{ 1}", "{1 }", "{1, }", "{, 1}", "{1, 1}", "{2, 1}", "{1, 2, 2}", "{01}", "{-0}", "{+1}", "{1000000001}", "{none}", "{1}}", "{{1}}", "[1]", "{1: 2}", "{1; 2}", "{1}, {2}", "{1]"},
		"map(flag)":                             {"[]", "[1]", "[1:on]", "[1 : on]", "[1: on", "[1: on]]", "[1: none]", "[1: on, 2: none]", "[1: on, 1: on]", "[2: on, 1: on]", "[1: on,2: on]", "[1: on, ]", "[: on]", "[1: ]", "[1: clash]", "[1: 1]", "{1: on}", "[01: on]", "[on: 1]", "[1: on}", "(1: on)"},
		"map(set)":                              {"[1: {}]", "[1: {2]", "[1: {2}", "[1: [2]]", "[1: {2}}", "[1: {2}; 3: {4}]", "[1: {2}, 3]", "[1, {2}]", "[1: {2, 3: {4}]"},
		"pair(flag, max)":                       {"()", "(on)", "(on,1)", "(on, 1", "on, 1", "(on, 1))", "(none, none)", "(1, on)", "(on, on)", "(on, 1, 1)", "(on , 1)", "( on, 1)", "(on, 1 )", "(on, 01)", "[on, 1]", "(, 1)", "(on, )", "(on 1)"},
		"pair(pair(flag, n), pair(once, flag))": {"((on, none), (none, none))", "((none, none), (1, none))", "(on, none, 1, on)", "((on, #t), (1, on)", "((on, #t, 1, on))", "((none, none), (none, none))"},
	} {
		for _, s := range texts {
			if e, err := elem.Parse(lattice(shape), s); err != api.ErrForm || !same(e, none) {
				t.Errorf("%s: Parse of %q: %v, %v", shape, s, e, err)
			}
		}
	}
}

// P4.6: of all short texts Parse reads just those of elements.
func TestAllShortTexts(t *testing.T) {
	for _, x := range []struct {
		shape string
		most  int
		signs []string
		least int
	}{
		{"flag", 4, []string{"on", "none", "o", "n", "e", " ", "clash"}, 3},
		{"max", 6, []string{"-", "0", "1", "+", " ", "none"}, 96},
		{"max", 3, []string{"-", "100", "1", "000000", "9", "00"}, 20},
		{"once", 4, []string{"clash", "-", "0", "12", "none", "on", " "}, 25},
		{"l", 4, []string{"#", "a", "b", "d", "none", " ", "!"}, 3},
		{"set", 7, []string{"{", "}", ", ", "0", "1", "-"}, 50},
		{"set", 5, []string{"{", "}", ",", " ", ":", "-1", "2", "none"}, 4},
		{"map(flag)", 6, []string{"[", "]", ", ", ": ", "1", "on", "none"}, 3},
		{"pair(flag, l)", 5, []string{"(", ")", ", ", "on", "#b", "none", " "}, 4},
		{"map(set)", 6, []string{"[1: ", "[-1: ", "{1", ", 2", ": ", "}", "]"}, 4},
	} {
		count, l := 0, lattice(x.shape)
		for s := range words(x.most, x.signs...) {
			if tryParse(t, l, s) {
				count++
			}
		}
		if count < x.least {
			t.Errorf("%s: only %d texts were those of elements", x.shape, count)
		}
	}
}

// spoiltText returns a text with one byte more, less, or another one, or a part of it twice, or not at all.
func spoiltText(r *rand.Rand, s, bytes string) string {
	at, c := r.Intn(len(s)), string(bytes[r.Intn(len(bytes))])
	to := at + r.Intn(len(s)-at)
	switch r.Intn(5) {
	case 0:
		return s[:at] + c + s[at:]
	case 1:
		return s[:at] + s[at+1:]
	case 2:
		return s[:at] + s[at:to] + s[at:]
	case 3:
		return s[:at] + s[to:]
	}
	return s[:at] + c + s[at+1:]
}

// P4.6, P4.13, P4.15: texts of elements, and those with changes; with a blank behind them.
func TestTexts(t *testing.T) {
	r := rand.New(rand.NewSource(7))
	count := 0
	for _, shape := range shapeTexts {
		l := lattice(shape)
		elems := elemsOf(r, l, 70)
		for range 10 {
			elems = append(elems, someElem(r, l, 6))
		}
		for _, e := range elems {
			want := modelText(l, e)
			if len(want) > api.MaxText {
				continue
			}
			s, err := elem.Text(l, e)
			if s != want || err != api.OK {
				t.Fatalf("%s: Text of %v: %q, %v; not %q", shape, e, s, err, want)
			}
			back, err := elem.Parse(l, s)
			if !same(back, e) || err != api.OK || elem.Check(l, back) != api.OK {
				t.Errorf("%s: Parse of %q: %v, %v", shape, s, back, err)
			}
			if tryParse(t, l, s+" ") || tryParse(t, l, " "+s) || tryParse(t, l, s+"\n") {
				t.Errorf("%s: %q with a blank is the text of an element", shape, s)
			}
			for range 20 {
				if near := spoiltText(r, s, "0123456789-{}[](),: #abnoe\x00\xff"); tryParse(t, l, near) && near != s {
					count++
				}
			}
		}
	}
	if count < 500 {
		t.Errorf("only %d texts that had changed were those of elements", count)
	}
}

// lengthened returns an element in which the last keys of sets are greater, so that a size of it comes as near as can be to a number from below.
func lengthened(e api.Elem, size func(api.Elem) int, want int) api.Elem {
	e = copied(e)
	now := size(e)
	var longer func(*api.Elem)
	longer = func(x *api.Elem) {
		for i := range x.Kids {
			longer(&x.Kids[i])
		}
		if x.Kind != api.ElemSet {
			return
		}
		last := &x.Keys[len(x.Keys)-1]
		for key := *last; key <= api.MaxNumber && now < want; key *= 10 {
			was := *last
			*last = key
			if now = size(e); now > want {
				*last = was
				now = size(e)
				return
			}
		}
	}
	longer(&e)
	return e
}

// P4.6: texts of just as many bytes as there may be, and of one more.
func TestLongTexts(t *testing.T) {
	l := lattice("map(set)")
	long := mapOf(upTo(10, 40), times(30, setOf(append(upTo(10, 28), 60)...))...)
	size := func(e api.Elem) int { return len(modelText(l, e)) }
	for _, n := range []int{api.MaxText - 1, api.MaxText, api.MaxText + 1, api.MaxText + 100} {
		e := lengthened(long, size, n)
		if size(e) != n {
			t.Fatalf("a text of %d bytes, not %d", size(e), n)
		}
		s, err := elem.Text(l, e)
		back, err2 := elem.Parse(l, modelText(l, e))
		if n <= api.MaxText && (s != modelText(l, e) || err != api.OK || !same(back, e) || err2 != api.OK) {
			t.Errorf("a text of %d bytes: %q, %v; back: %v, %v", n, s, err, back, err2)
		}
		if n > api.MaxText && (s != "" || err != api.ErrLimit || !same(back, none) || err2 != api.ErrLimit) {
			t.Errorf("a text of %d bytes: %q, %v; back: %v, %v", n, s, err, back, err2)
		}
	}
	for _, x := range []struct {
		s    string
		want api.Errno
	}{
		{strings.Repeat("\xff", api.MaxText), api.ErrForm}, {strings.Repeat("\xff", api.MaxText+1), api.ErrLimit}, {strings.Repeat("0", api.MaxText), api.ErrForm}, {strings.Repeat(" ", 1<<20), api.ErrLimit},
		{strings.Repeat("(", api.MaxText), api.ErrForm}, {strings.Repeat("[1: ", api.MaxText/4), api.ErrForm}, {strings.Repeat("{", api.MaxText), api.ErrForm}, {"{" + strings.Repeat("1, ", 800) + "1}", api.ErrForm},
	} {
		for _, shape := range shapeTexts {
			if e, err := elem.Parse(lattice(shape), x.s); err != x.want || !same(e, none) {
				t.Errorf("%s: Parse of %.20q: %v, %v", shape, x.s, e, err)
			}
		}
	}
	keys := modelText(lattice("set"), setOf(upTo(0, 40)...))
	if e, err := elem.Parse(lattice("set"), keys); err != api.OK || len(e.Keys) != 40 {
		t.Errorf("Parse of 40 keys: %v, %v", e, err)
	}
	for _, s := range []string{modelText(lattice("set"), setOf(upTo(0, 41)...)), keys + ", 40}", strings.TrimSuffix(keys, "}") + ", "} {
		if e, err := elem.Parse(lattice("set"), s); err != api.ErrForm || !same(e, none) {
			t.Errorf("Parse of %q: %v, %v", s, e, err)
		}
	}
}
