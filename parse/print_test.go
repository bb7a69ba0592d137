package parse_test

import (
	"math/rand"
	"slices"
	"strings"
	"testing"

	"dripstone/api"
	"dripstone/parse"
)

// P2.3: each item as it is printed.
func TestPrintItems(t *testing.T) {
	for s, want := range map[string]string{
		"":                                     "",
		"lattice t{a}":                         "lattice t { a }\n",
		"lattice t{a;b!;c:a;d!:a,b;e:a,b,c}":   "lattice t { a; b!; c: a; d!: a, b; e: a, b, c }\n",
		"use f();":                             "use f();\n",
		"use f(int,flag,max,set,once);":        "use f(int, flag, max, set, once);\n",
		"use f(t,map(t),pair(int1,map(set)));": "use f(t, map(t), pair(int1, map(set)));\n",
		"task f(){}":                           "task f() {\n}\n",
		"task f(a:int){}":                      "task f(a: int) {\n}\n",
		"task f(a:int,b:map(set)){}use g();":   "task f(a: int, b: map(set)) {\n}\nuse g();\n",
	} {
		x := parsed(t, s)
		if got := printed(t, x); got != want {
			t.Errorf("Print of %q: %q", s, got)
		}
	}
}

// P2.3: each statement as it is printed and shown, with blocks in blocks.
func TestPrintStatements(t *testing.T) {
	for s, want := range map[string]string{
		"new x:set;":                         "new x: set;",
		"share x:t;":                         "share x: t;",
		"let a=1;":                           "let a = 1;",
		"put x on;":                          "put x on;",
		"put x 1;":                           "put x 1;",
		"put x-1;":                           "put x -1;",
		"put x#a;":                           "put x #a;",
		"put x{1};":                          "put x {1};",
		"put x{1,2+3,(4)};":                  "put x {1, 2 + 3, 4};",
		"put x[1]on;":                        "put x [1] on;",
		"put x[1<2][(3)]{4};":                "put x [1 < 2] [3] {4};",
		"put x pair(on,);":                   "put x pair(on, );",
		"put x pair(,on);":                   "put x pair(, on);",
		"put x pair(on,pair(,1));":           "put x pair(on, pair(, 1));",
		"put x pair([1]on,{2});":             "put x pair([1] on, {2});",
		"spawn f();":                         "spawn f();",
		"spawn f(x,1+2);":                    "spawn f(x, 1 + 2);",
		"freeze x as y;":                     "freeze x as y;",
		"fail(1);":                           "fail 1;",
		"all{}":                              "all {\n}",
		"each x as k{}":                      "each x as k {\n}",
		"when x on{}":                        "when x on {\n}",
		"when x{1}{}or[2]{3}{}":              "when x {1} {\n} or [2] {3} {\n}",
		"if 1{}":                             "if 1 {\n}",
		"if(1<2){}else{}":                    "if 1 < 2 {\n} else {\n}",
		"all{fail 1;fail 2;}":                "all {\n  fail 1;\n  fail 2;\n}",
		"when x 1{fail 1;}or 2{}or 3{all{}}": "when x 1 {\n  fail 1;\n} or 2 {\n} or 3 {\n  all {\n  }\n}",
		"if 1{if 2{fail 3;}else{fail 4;}}else{each x as k{all{}}}": "if 1 {\n  if 2 {\n    fail 3;\n  } else {\n    fail 4;\n  }\n} else {\n  each x as k {\n    all {\n    }\n  }\n}",
	} {
		x := parsed(t, "task f(){"+s+"}")
		if got, e := parse.Show(x, 3); got != want || e != api.OK {
			t.Errorf("Show of %q: %q, %v", s, got, e)
		}
		whole := "task f() {\n  " + strings.ReplaceAll(want, "\n", "\n  ") + "\n}\n"
		if got := printed(t, x); got != whole {
			t.Errorf("Print of %q: %q", s, got)
		}
	}
}

// P2.3: brackets stand just where they must.
func TestPrintExprs(t *testing.T) {
	for s, want := range map[string]string{
		"1": "1", "(x)": "x", "-1": "-1", "--1": "--1", "-(-(1))": "--1", "-(1+2)": "-(1 + 2)", "-(1*2)": "-(1 * 2)", "(-1)*2": "-1 * 2", "1*(-2)": "1 * -2", "-(1<2)": "-(1 < 2)",
		"(1+2)+3": "1 + 2 + 3", "1+(2+3)": "1 + (2 + 3)", "1-(2-3)": "1 - (2 - 3)", "1-2-3": "1 - 2 - 3", "1+(2*3)": "1 + 2 * 3", "(1*2)+3": "1 * 2 + 3", "(1+2)*3": "(1 + 2) * 3", "1*(2+3)": "1 * (2 + 3)",
		"1*(2*3)": "1 * (2 * 3)", "1*2*3": "1 * 2 * 3", "1/(2/3)": "1 / (2 / 3)", "1*2/3": "1 * 2 / 3", "6/(2*3)": "6 / (2 * 3)", "1-(-2)": "1 - -2", "-1-2": "-1 - 2", "1+(-(2+3))": "1 + -(2 + 3)",
		"(1<2)==3": "(1 < 2) == 3", "1==(2!=3)": "1 == (2 != 3)", "(1+2)<(3+4)": "1 + 2 < 3 + 4", "(1<2)+3": "(1 < 2) + 3", "1+(2>3)": "1 + (2 > 3)", "(1<=2)*(3>=4)": "(1 <= 2) * (3 >= 4)",
		"size(x)": "size(x)", "has(x,(1+2))": "has(x, 1 + 2)", "value(x,(1<2))": "value(x, 1 < 2)", "has(x,1)*value(y,2)": "has(x, 1) * value(y, 2)", "1000000000": "1000000000", "0": "0",
	} {
		x := parsed(t, "task f(){fail "+s+";}")
		if got, e := parse.Show(x, 4); got != want || e != api.OK {
			t.Errorf("Show of %q: %q, %v", s, got, e)
		}
	}
}

// P2.3: what is shown of nodes that are neither items nor statements nor exprs.
func TestShowParts(t *testing.T) {
	s := "lattice t { a!: b; c }\ntask f(n: map(int1)) {\n  each x as k {\n    when x [1] on {\n      fail 1;\n    } or 2 {\n    }\n  }\n}\n"
	x := parsed(t, s)
	for node, want := range []string{
		s, "lattice t { a!: b; c }", "a!: b", "b", "c", s[23 : len(s)-1], "n: map(int1)", "map(int1)", "int1",
		"{\n  each x as k {\n    when x [1] on {\n      fail 1;\n    } or 2 {\n    }\n  }\n}", "each x as k {\n  when x [1] on {\n    fail 1;\n  } or 2 {\n  }\n}", "k",
		"{\n  when x [1] on {\n    fail 1;\n  } or 2 {\n  }\n}", "when x [1] on {\n  fail 1;\n} or 2 {\n}", "[1] on {\n  fail 1;\n}", "[1] on", "1", "on", "{\n  fail 1;\n}", "fail 1;", "1", "2 {\n}", "2", "2", "{\n}",
	} {
		if got, e := parse.Show(x, node); got != want || e != api.OK {
			t.Errorf("Show of %d: %q, %v", node, got, e)
		}
	}
	for _, node := range []int{-1, len(x.Nodes), 1 << 62, -1 << 62} {
		if got, e := parse.Show(x, node); got != "" || e != api.ErrNone {
			t.Errorf("Show of %d: %q, %v", node, got, e)
		}
	}
	if s, e := parse.Print(parsed(t, every)); s != every || e != api.OK {
		t.Errorf("Print of all: %q, %v", s, e)
	}
}

// P2.3: the limit of the text, of trees and of nodes, and the order of the errors.
func TestPrintLimits(t *testing.T) {
	value := "value(abcdefghijkl,1000000000)"
	spawn := "spawn abcdefghijkl(" + strings.Join(slices.Repeat([]string{value}, 5), ",") + ");"
	x := parsed(t, "task f(){all{"+strings.Repeat(spawn, 4)+"}"+strings.Repeat(spawn, 10)+"}")
	last := api.ErrLimit
	for i := range x.Nodes {
		for len(x.Nodes[i].Text) > 1 {
			s, e := parse.Print(x)
			item, f := parse.Show(x, 1)
			switch {
			case e == api.ErrLimit && (s != "" || f == api.OK && len(item) != api.MaxText || f == api.ErrLimit && item != ""):
				t.Fatalf("Print: %q, %v; Show: %q, %v", s, e, item, f)
			case e == api.OK && last == api.ErrLimit && (len(s) != api.MaxText || len(item) != api.MaxText-1):
				t.Fatalf("Print of the first text that is short enough: %d", len(s))
			}
			last = e
			x.Nodes[i].Text = x.Nodes[i].Text[1:]
		}
	}
	if last != api.OK {
		t.Errorf("no text was short enough")
	}
	long := parsed(t, "task f(){"+strings.Repeat("let abcdefghijkl=1;", 12)+"}")
	long.Nodes = slices.Concat(long.Nodes[:1], slices.Repeat(long.Nodes[1:], 15))
	long.Nodes[0].Size = len(long.Nodes)
	if s, e := parse.Print(long); s != "" || e != api.ErrLimit {
		t.Errorf("Print of a long text: %q, %v", s, e)
	}
	if s, e := parse.Show(long, 27); !strings.HasPrefix(s, "task f() {\n  let abcdefghijkl = 1;\n") || e != api.OK {
		t.Errorf("Show of a part of a long text: %q, %v", s, e)
	}
	if s, e := parse.Show(long, -1); s != "" || e != api.ErrNone {
		t.Errorf("Show of no part of a long text: %q, %v", s, e)
	}
	if s, e := parse.Show(api.Tree{}, -1); s != "" || e != api.ErrForm {
		t.Errorf("Show of no tree: %q, %v", s, e)
	}
	if s, e := parse.Print(api.Tree{}); s != "" || e != api.ErrForm {
		t.Errorf("Print of no tree: %q, %v", s, e)
	}
	if s, e := parse.Print(chain(26).tree()); s != "" || e != api.ErrLimit {
		t.Errorf("Print of a deep tree: %q, %v", s, e)
	}
}

// plainly returns a text without the blanks at the beginnings of lines, and without round brackets.
func plainly(s string) string {
	lines := strings.Split(s, "\n")
	for i, line := range lines {
		lines[i] = strings.TrimLeft(line, " ")
	}
	return strings.NewReplacer("(", "", ")", "").Replace(strings.Join(lines, "\n"))
}

// P2.9: what is printed is read as the same tree, and shown node by node.
func TestPrintAgain(t *testing.T) {
	trees := []api.Tree{parsed(t, every), {Nodes: []api.TreeNode{{Kind: api.ProgramNode, Size: 1}}}}
	for seed := range 300 {
		trees = append(trees, smallPlant(seed+40000).tree())
	}
	for _, x := range trees {
		s := printed(t, x)
		y := parsed(t, s)
		if !slices.Equal(bare(x.Nodes), bare(y.Nodes)) {
			t.Fatalf("Parse of %q: %v; not %v", s, y.Nodes, x.Nodes)
		}
		if again := printed(t, y); again != s {
			t.Fatalf("Print of %q: %q", s, again)
		}
		for i := range x.Nodes {
			shown, e := parse.Show(x, i)
			r, f := parse.Range(s, i)
			if e != api.OK || f != api.OK || i > 0 && plainly(shown) != plainly(s[r.From:r.To]) || i == 0 && shown != s {
				t.Fatalf("Show of %q, %d: %q", s, i, shown)
			}
		}
	}
}

// P2.3: no brackets around an operand can be taken away, and those that are not there would change nothing.
func TestBracketsAreNeeded(t *testing.T) {
	g := gardener{rand.New(rand.NewSource(7))}
	taken := 0
	for range 400 {
		expr := g.expr(4)
		x := plant{kind: api.ProgramNode, kids: []plant{{kind: api.TaskItem, text: "f", kids: []plant{{kind: api.BlockNode, kids: []plant{{kind: api.FailStmt, kids: []plant{expr}}}}}}}}.tree()
		s := printed(t, x)
		var open []int
		for i, c := range s {
			switch c {
			case '(':
				open = append(open, i)
			case ')':
				from := open[len(open)-1]
				open = open[:len(open)-1]
				if before := s[from-1]; before != ' ' && before != '(' && before != '-' {
					continue
				}
				less := s[:from] + " " + s[from+1:i] + " " + s[i+1:]
				y, _, e := parse.Parse(less)
				if e == api.OK && slices.Equal(bare(y.Nodes), bare(x.Nodes)) {
					t.Fatalf("%q has brackets that are not needed", s)
				}
				taken++
			}
		}
	}
	if taken < 200 {
		t.Errorf("only %d brackets", taken)
	}
}
