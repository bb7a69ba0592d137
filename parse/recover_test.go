package parse_test

import (
	"cmp"
	"slices"
	"strings"
	"testing"

	"dripstone/api"
	"dripstone/lex"
	"dripstone/parse"
)

// flaws returns flaws of the form at some places.
func flaws(at ...int) []api.Flaw {
	var l []api.Flaw
	for _, x := range at {
		l = append(l, api.Flaw{At: x, E: api.ErrForm})
	}
	return l
}

// P2.4: which statements are left out, the flaws, and where reading goes on.
func TestRecoverStatements(t *testing.T) {
	for s, x := range map[string]struct {
		want  string // the statements that are left, in the blank texts that they are printed as
		flaws []api.Flaw
	}{
		// Behind a ; outside of all braces of the statement.
		"fail 1 2; fail 3;":                       {"fail 3;", flaws(17)},
		"let a = ; fail 3;":                       {"fail 3;", flaws(18)},
		"; fail 3;":                               {"fail 3;", flaws(10)},
		"x = 1; fail 3;":                          {"fail 3;", flaws(10)},
		"fail 1 x y z ) ( ; fail 3;":              {"fail 3;", flaws(17)},
		"else ; fail 3;":                          {"fail 3;", flaws(10)},
		"or 1 ; fail 3;":                          {"fail 3;", flaws(10)},
		"use ; fail 3;":                           {"fail 3;", flaws(10)},
		"if 1 fail 2; fail 3;":                    {"fail 3;", flaws(15)},
		"if 1 { fail 2; } else fail 2; fail 3;":   {"fail 3;", flaws(32)},
		"if 1 { } fail 2 2; fail 3;":              {"if 1 { } fail 3;", flaws(26)},
		"fail 1 fail 2; fail 3;":                  {"fail 3;", flaws(17)},
		"when x; fail 3;":                         {"fail 3;", flaws(16)},
		"spawn f(1 2); fail 3;":                   {"fail 3;", flaws(20)},
		"new x: set(; fail 3;":                    {"fail 3;", flaws(20)},
		"put x pair(,); freeze x as y; fail 3;":   {"freeze x as y; fail 3;", flaws(22)},
		"fail 1 2; fail 3 4; ; fail 5; ) ; all{}": {"fail 5; all { }", flaws(17, 27, 30, 40)},
		// With the } that closes the block in which the statement stands.
		"fail 1":                      {"", flaws(16)},
		"fail 2; fail 1 2":            {"fail 2;", flaws(25)},
		"all { fail } fail":           {"all { }", flaws(21, 27)},
		"all { fail 1 2 } fail 3;":    {"all { } fail 3;", flaws(23)},
		"x":                           {"", flaws(10)},
		"x )":                         {"", flaws(10)},
		"if 1 { fail 2; } else":       {"", flaws(31)},
		"when x 1 { x } or 2 { x }":   {"when x 1 { } or 2 { }", flaws(21, 32)},
		"if 1 { x } else { x } fail ": {"if 1 { } else { }", flaws(17, 28, 37)},
		// Behind the } that closes the first one of its own braces.
		"when x { fail 1; } fail 3;":                    {"fail 3;", flaws(19)},
		"{ fail 1; { } } fail 3;":                       {"fail 3;", flaws(10)},
		"{ fail 1; } ; fail 3;":                         {"fail 3;", flaws(10, 22)},
		"fail { fail 1; } fail 3;":                      {"fail 3;", flaws(15)},
		"put x {1 2}; fail 3;":                          {"fail 3;", flaws(19, 21)},
		"put x {1 2; 3}; fail 3;":                       {"fail 3;", flaws(19, 24)},
		"all { } else { fail 1; } fail 3;":              {"all { } fail 3;", flaws(18)},
		"when x 1 { } or { fail 2; } fail 3;":           {"fail 3;", flaws(28)},
		"when x 1 { fail 2 2; } or 2 { } ) { } fail 3;": {"when x 1 { } or 2 { } fail 3;", flaws(28, 42)},
		"fail 1 x { ; } fail 3;":                        {"fail 3;", flaws(17)},
		"each x as 1 { ; } fail 3;":                     {"fail 3;", flaws(20)},
		// One in the other: the flaws that are met stay, whatever is left out around them.
		"all { fail; } fail 3;":                              {"all { } fail 3;", flaws(20)},
		"all { all { ) ; fail 1; } ) ; fail 2; } fail 3;":    {"all { all { fail 1; } fail 2; } fail 3;", flaws(22, 36)},
		"if 1 { ) ; } else ( ; fail 3;":                      {"fail 3;", flaws(17, 28)},
		"if 1 { ) { } ( { } } else ( ; fail 3;":              {"fail 3;", flaws(17, 23, 36)},
		"each x as k { each y as ; fail 1; } fail 2 fail 3;": {"each x as k { fail 1; }", flaws(34, 53)},
	} {
		u, l, at, e := parse.Recover("task f(){ " + s + "}")
		got := strings.Join(strings.Fields(printed(t, u)), " ")
		want := strings.Join(strings.Fields("task f() { "+x.want+" }"), " ")
		if e != api.OK || at != 0 || !slices.Equal(l, x.flaws) || got != want {
			t.Errorf("Recover of %q: %q, %v, %d, %v", s, got, l, at, e)
		}
	}
}

// P2.4: which items are left out, and where reading goes on.
func TestRecoverItems(t *testing.T) {
	for s, x := range map[string]struct {
		want  string
		flaws []api.Flaw
	}{
		// A flaw outside of any statement.
		"use f()\nuse g();":                     {"use g();", flaws(8)},
		"use f() use g();\nuse h();":            {"use h();", flaws(8)},
		"use f() use g();\n use h();":           {"", flaws(8)},
		"use f(\nuse g();":                      {"use g();", flaws(7)},
		"use 1\n; x {\nuse g(); 2\nuse h();":    {"use g(); use h();", flaws(4, 21)},
		"use f();;\nuse g();":                   {"use f(); use g();", flaws(8)},
		"lattice t { a; }\ntask g() { }":        {"task g() { }", flaws(15)},
		"task f(1) { fail 1 2; }\ntask g() { }": {"task g() { }", flaws(7)},
		"task f() { } }\nlattice t { a }":       {"task f() { } lattice t { a }", flaws(13)},
		"x":                                     {"", flaws(0)},
		"x\nx\nx":                               {"", flaws(0)},
		"%\nx\n%\nuse g();":                     {"use g();", flaws(2)},
		"x use f(); use f();%\ntask g() { }":    {"task g() { }", flaws(0)},
		";task f() { }":                         {"", flaws(0)},
		" x;task f() { }\nuse g();":             {"use g();", flaws(1)},
		"fail 1; task f() { }":                  {"", flaws(0)},
		"} task f() { }\nuse g();":              {"use g();", flaws(0)},
		"task\ntask\ntask g() { }":              {"task g() { }", flaws(5, 10)},
		"use\nuse g(); use h();":                {"use g(); use h();", flaws(4)},
		// The text ends in an item.
		"use":                               {"", flaws(3)},
		"use g(); task f() { fail 1; % end": {"use g();", flaws(33)},
		"task f() { fail ":                  {"", flaws(16)},
		"task f() { all { if 1 { } else":    {"", flaws(30)},
		"task f() { ":                       {"", flaws(11)},
		"lattice t { a!: ":                  {"", flaws(16)},
		// The text ends, or an item token is met, behind a flawed statement.
		"task f() { ) ":                                {"", flaws(11, 13)},
		"task f() { fail; ) { ; ; } } } ( ":            {"task f() { }", flaws(15, 17, 29)},
		"task f() { { ; ; \n":                          {"", flaws(11, 18)},
		"task f() { all { x { } x }":                   {"", flaws(17, 23, 26)},
		"task f() { x\ntask g() { }":                   {"task g() { }", flaws(11)},
		"task f() { x task g() { } }":                  {"task f() { }", flaws(11)},
		"task f() { task g() { } }":                    {"task f() { }", flaws(11)},
		"task f() {\ntask g() { } }":                   {"task g() { }", flaws(11, 24)},
		"task f() { x\n task g() { } }":                {"task f() { }", flaws(11)},
		"task f() { x\n % \nuse g();":                  {"use g();", flaws(11)},
		"task f() { fail 1; all { fail 2; {\nuse g();": {"use g();", flaws(33)},
		"task f() { put\nlattice; fail 1; }":           {"", flaws(15, 22)},
		"task f() { ) ; all { ( ; }\nuse g();\nx":      {"use g();", flaws(11, 21, 27, 36)},
	} {
		u, l, at, e := parse.Recover(s)
		got := strings.Join(strings.Fields(printed(t, u)), " ")
		if e != api.OK || at != 0 || !slices.Equal(l, x.flaws) || got != x.want {
			t.Errorf("Recover of %q: %q, %v, %d, %v", s, got, l, at, e)
		}
	}
}

// P2.4: items that have not the sizes; what is left out does not count.
func TestRecoverSizes(t *testing.T) {
	size := func(at int) api.Flaw { return api.Flaw{At: at, E: api.ErrRange} }
	six := "(1,1,1,1,1,1);"
	for _, x := range []struct {
		s, want string
		flaws   []api.Flaw
	}{
		{"use f(int,int,int,int,int,int); use g();", "use g();", []api.Flaw{size(0)}},
		{"use g(); task f() { spawn f" + six + " put x {1,1,1,1,1}; } use h();", "use g(); use h();", []api.Flaw{size(20)}},
		{"task f() { put x {1,1,1,1,1}; spawn f" + six + " }", "", []api.Flaw{size(17)}},
		{"task f() { ) ; spawn f" + six + " ( ; }\nx\nuse f(int,int,int,int,int,int); ;", "", append(append(flaws(11, 37), size(15)), api.Flaw{At: 43, E: api.ErrForm}, size(45), api.Flaw{At: 77, E: api.ErrForm})},
		{"task f() { spawn f" + six + "\nuse g();", "use g();", flaws(33)},
		{"task f() { spawn f" + six[:12] + " 1); }", "task f() { }", flaws(31)},
		{"task f() { " + strings.Repeat("all{}", 12) + "; }", "task f() { " + strings.Repeat("all { } ", 12) + "}", flaws(71)},
		{"task f() { " + strings.Repeat("all{}", 13) + " }", "", []api.Flaw{size(9)}},
		{"task f() { all { " + strings.Repeat("fail 1;", 12) + "fail 1 } }", "task f() { all { " + strings.Repeat("fail 1; ", 12) + "} }", flaws(108)},
	} {
		u, l, at, e := parse.Recover(x.s)
		got := strings.Join(strings.Fields(printed(t, u)), " ")
		if e != api.OK || at != 0 || !slices.Equal(l, x.flaws) || got != x.want {
			t.Errorf("Recover of %q: %q, %v, %d, %v", x.s, got, l, at, e)
		}
	}
	for many := 1; many < 20; many++ {
		for i, x := range sized(many) {
			u, l, at, e := parse.Recover(x.s)
			switch {
			case many <= x.most && (len(l) > 0 || at != 0 || e != api.OK):
				t.Errorf("Recover of %q: %v, %d, %v", x.s, l, at, e)
			case many > x.most && i == 0 && (u.Nodes != nil || l != nil || at != 0 || e != api.ErrRange):
				t.Errorf("Recover of too many items: %v, %v, %d, %v", u, l, at, e)
			case many > x.most && i > 0 && (!slices.Equal(l, []api.Flaw{size(x.at)}) || at != 0 || e != api.OK):
				t.Errorf("Recover of %q: %v, %d, %v", x.s, l, at, e)
			}
		}
	}
}

// P2.4: the errors, their order, and what does not count as it is left out.
func TestRecoverErrors(t *testing.T) {
	items := func(many int) string { return strings.Repeat("use f();", many) }
	deep := func(many int) string { return "task f(){fail " + strings.Repeat("-", many) + "1;}" }
	for _, x := range []struct {
		s  string
		at int
		e  api.Errno
	}{
		{"task f() { & }", 11, api.ErrForm},
		{"x \x00 &", 2, api.ErrForm},
		{strings.Repeat("x", api.MaxText+1), 0, api.ErrLimit},
		{strings.Repeat(";", api.MaxTokens) + "\n;", api.MaxTokens + 1, api.ErrLimit},
		{strings.Repeat(";", api.MaxTokens), 0, api.OK},
		{items(16), 0, api.OK},
		{items(17), 0, api.ErrRange},
		{items(17) + " x", 0, api.ErrRange},
		{items(16) + " x\nuse g()", 0, api.OK},
		{items(16) + "use f(max,max,max,max,max,max);", 0, api.OK},
		{deep(25), 0, api.OK},
		{deep(26), 0, api.ErrLimit},
		{items(16) + deep(26), 0, api.ErrLimit},
		{"x\n" + deep(26), 0, api.ErrLimit},
		{deep(26)[:40] + " ; ; }", 0, api.OK},
		{"task f(a:int,a:int,a:int,a:int,a:int,a:int){fail " + strings.Repeat("-", 26) + "1;}", 0, api.OK},
		{manyNodes(api.MaxNodes), 0, api.OK},
		{manyNodes(api.MaxNodes + 1), 0, api.ErrLimit},
		{"x\n" + manyNodes(api.MaxNodes+1), 0, api.ErrLimit},
		{manyNodes(api.MaxNodes+1) + "\n" + items(16), 0, api.ErrLimit},
		{strings.Replace(manyNodes(api.MaxNodes+1), "{", "{;", 1), 0, api.ErrLimit},
		{strings.Replace(manyNodes(api.MaxNodes+1), ";", " 1;", 1), 0, api.OK},
	} {
		u, l, at, e := parse.Recover(x.s)
		if at != x.at || e != x.e || e != api.OK && (u.Nodes != nil || l != nil) || e == api.OK && parse.Check(u) != api.OK {
			t.Errorf("Recover of %.40q: %v, %v, %d, %v", x.s, u, l, at, e)
		}
	}
}

// blanked returns a text in which a part is blanks, but for its line feeds.
func blanked(s string, from, to int) string {
	b := []byte(s)
	for i := from; i < to; i++ {
		if b[i] != '\n' {
			b[i] = ' '
		}
	}
	return string(b)
}

// itemFrom returns the first item token from one on, or how many tokens there are.
func itemFrom(s string, l []api.Lexeme, from int) int {
	for from < len(l) && !(slices.Contains([]string{"lattice", "use", "task"}, l[from].Text) && (l[from].At == 0 || s[l[from].At-1] == '\n')) {
		from++
	}
	return from
}

// goOn returns with which token reading goes on behind a flawed statement; it is false if the item cannot be gone on with.
func goOn(s string, l []api.Lexeme, start, flaw int) (int, bool) {
	count := 0
	item := itemFrom(s, l, flaw)
	for i := start; i < item; i++ {
		switch l[i].Text {
		case "{":
			count++
		case "}":
			if i >= flaw && count == 0 {
				return i, true
			}
			count--
			if i >= flaw && count == 0 {
				return i + 1, true
			}
		case ";":
			if i >= flaw && count == 0 {
				return i + 1, true
			}
		}
	}
	return item, false
}

// byHoles does what Recover does in another way: what is flawed is left out of the tokens, one after the other, until the grammar goes on with all of them. It returns the text in which this is blanks.
func byHoles(g *recognizer, s string) (string, []api.Flaw) {
	s, _, _ = lex.Blank(s)
	l, _, _ := lex.Scan(s)
	place := func(i int) int {
		if i == len(l) {
			return len(s)
		}
		return l[i].At
	}
	var out []api.Flaw
	for flaw := g.read(l); flaw >= 0; flaw = g.read(l) {
		out = append(out, api.Flaw{At: place(flaw), E: api.ErrForm})
		start, to := g.inside("item", flaw), itemFrom(s, l, flaw)
		var hole []api.Lexeme
		if stmt := g.inside("stmt", flaw); stmt >= 0 && flaw < len(l) {
			end, ok := goOn(s, l, stmt, flaw)
			to = end
			if ok {
				start, hole = stmt, []api.Lexeme{{Kind: api.WordToken, Text: "HOLE", At: l[stmt].At}}
			} else if end == len(l) {
				out = append(out, api.Flaw{At: len(s), E: api.ErrForm})
			}
		}
		s = blanked(s, place(start), place(to))
		l = slices.Concat(l[:start], hole, l[to:])
	}
	return bySizes(s, out)
}

// bySizes puts blanks in the place of the items that have not the sizes.
func bySizes(s string, out []api.Flaw) (string, []api.Flaw) {
	l, _, _ := lex.Scan(s)
	ends := map[int]int{} // of items, by the places of their flaws: there they are met
	to, end := len(s), 0
	for i := len(l) - 1; i >= 0; i-- {
		x := l[i]
		end = max(end, x.At+len(x.Text))
		if !slices.Contains([]string{"lattice", "use", "task"}, x.Text) {
			continue
		}
		if _, at, e := parse.Parse(blanked(blanked(s, 0, x.At), to, len(s))); e == api.ErrRange {
			out = append(out, api.Flaw{At: at, E: e})
			ends[at] = end
			s = blanked(s, x.At, to)
		}
		to, end = x.At, 0
	}
	met := func(f api.Flaw) int {
		if f.E == api.ErrRange {
			return ends[f.At]
		}
		return f.At
	}
	slices.SortStableFunc(out, func(a, b api.Flaw) int {
		return cmp.Or(cmp.Compare(met(a), met(b)), cmp.Compare(a.E, b.E))
	})
	return s, out
}

// P2.4: as by holes, on flawed texts of all sorts.
func TestRecoverByHoles(t *testing.T) {
	g := newRecognizer()
	many, sizes := map[int]int{}, 0
	for seed := range 4000 {
		s := flawedText(seed + 100000)
		if _, _, e := lex.Scan(s); e != api.OK {
			continue
		}
		left, want := byHoles(g, s)
		x, _, e := parse.Parse(left)
		u, l, at, f := parse.Recover(s)
		if e != f || at != 0 || !slices.Equal(l, want) || !slices.Equal(u.Nodes, x.Nodes) {
			t.Fatalf("Recover of %q: %v, %v, %d, %v; not %v, %v", s, u, l, at, f, x, want)
		}
		many[len(l)]++
		if slices.ContainsFunc(l, func(x api.Flaw) bool { return x.E == api.ErrRange }) {
			sizes++
		}
	}
	for flaws := range 6 {
		if many[flaws] < 20 {
			t.Errorf("%d texts have %d flaws", many[flaws], flaws)
		}
	}
	if sizes < 30 {
		t.Errorf("%d texts have items that have not the sizes", sizes)
	}
}

// P2.10: a text that is right has no flaws.
func TestRecoverRightTexts(t *testing.T) {
	texts := []string{"", " ", "%", every, manyNodes(api.MaxNodes)}
	for seed := range 500 {
		texts = append(texts, newWriter(nil).text(smallPlant(seed+20000)))
	}
	for _, s := range texts {
		x := parsed(t, s)
		u, l, at, e := parse.Recover(s)
		if !slices.Equal(u.Nodes, x.Nodes) || len(l) > 0 || at != 0 || e != api.OK {
			t.Errorf("Recover of %q: %v, %d, %v", s, l, at, e)
		}
	}
}

// P2.11: each statement of a printed tree, one lost.
func TestRecoverOneLost(t *testing.T) {
	trees := []api.Tree{parsed(t, every)}
	for seed := range 200 {
		trees = append(trees, smallPlant(seed+30000).tree())
	}
	for _, x := range trees {
		s := printed(t, x)
		for i, n := range x.Nodes {
			if n.Kind < api.NewStmt || n.Kind > api.FailStmt {
				continue
			}
			r, _ := parse.Range(s, i)
			want, _ := parse.Splice(x, i, nil)
			u, l, at, e := parse.Recover(s[:r.From] + ") ;" + s[r.To:])
			same, f := parse.Same(u, want)
			if !slices.Equal(l, flaws(r.From)) || at != 0 || e != api.OK || !same || f != api.OK {
				t.Fatalf("Recover of %q without %d: %v, %v, %d, %v", s, i, u, l, at, e)
			}
		}
	}
}
