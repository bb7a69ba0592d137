package parse_test

import (
	"math/rand"
	"slices"
	"strings"
	"testing"

	"dripstone/api"
	"dripstone/parse"
)

func node(kind uint8, at, size int) api.TreeNode {
	return api.TreeNode{Kind: kind, At: at, Size: size}
}

func nodeText(kind uint8, text string, at, size int) api.TreeNode {
	return api.TreeNode{Kind: kind, Text: text, At: at, Size: size}
}

func num(n, at int) api.TreeNode {
	return api.TreeNode{Kind: api.NumNode, N: n, At: at, Size: 1}
}

// P2.1: the nodes of each production, with their places.
func TestParseItems(t *testing.T) {
	for s, want := range map[string][]api.TreeNode{
		"":              nil,
		" % \n":         nil,
		"lattice t {a}": {nodeText(api.LatticeItem, "t", 0, 2), nodeText(api.ElemNode, "a", 11, 1)},
		"\nlattice t {a!:b,c;b}": {
			nodeText(api.LatticeItem, "t", 1, 5), {Kind: api.ElemNode, N: 1, Text: "a", At: 12, Size: 3}, nodeText(api.AboveNode, "b", 15, 1), nodeText(api.AboveNode, "c", 17, 1), nodeText(api.ElemNode, "b", 19, 1),
		},
		"use f();":    {nodeText(api.UseItem, "f", 0, 1)},
		"use f(int);": {nodeText(api.UseItem, "f", 0, 2), node(api.IntType, 6, 1)},
		"use f(flag,max,set,once,t);": {
			nodeText(api.UseItem, "f", 0, 6), node(api.FlagType, 6, 1), node(api.MaxType, 11, 1), node(api.SetType, 15, 1), node(api.OnceType, 19, 1), nodeText(api.NamedType, "t", 24, 1),
		},
		"use f(map(pair(set,map(t))));": {
			nodeText(api.UseItem, "f", 0, 6), node(api.MapType, 6, 5), node(api.PairType, 10, 4), node(api.SetType, 15, 1), node(api.MapType, 19, 2), nodeText(api.NamedType, "t", 23, 1),
		},
		"task f(){}": {nodeText(api.TaskItem, "f", 0, 2), node(api.BlockNode, 8, 1)},
		"task f(a:int,b:map(max)){}": {
			nodeText(api.TaskItem, "f", 0, 7), nodeText(api.ParamNode, "a", 7, 2), node(api.IntType, 9, 1), nodeText(api.ParamNode, "b", 13, 3), node(api.MapType, 15, 2), node(api.MaxType, 19, 1), node(api.BlockNode, 24, 1),
		},
		"use f(); use g();": {nodeText(api.UseItem, "f", 0, 1), nodeText(api.UseItem, "g", 9, 1)},
	} {
		root := api.TreeNode{Kind: api.ProgramNode, Size: len(want) + 1}
		x := parsed(t, s)
		if !slices.Equal(x.Nodes, append([]api.TreeNode{root}, want...)) {
			t.Errorf("Parse of %q: %v", s, x.Nodes)
		}
	}
}

// P2.1: the nodes of each statement, and of each point.
func TestParseStatements(t *testing.T) {
	for s, want := range map[string][]api.TreeNode{
		"new x:t;":     {nodeText(api.NewStmt, "x", 10, 2), nodeText(api.NamedType, "t", 16, 1)},
		"share x:set;": {nodeText(api.ShareStmt, "x", 10, 2), node(api.SetType, 18, 1)},
		"let a=1;":     {nodeText(api.LetStmt, "a", 10, 2), num(1, 16)},
		"spawn f();":   {nodeText(api.SpawnStmt, "f", 10, 1)},
		"spawn f(1,x);": {
			nodeText(api.SpawnStmt, "f", 10, 3), num(1, 18), nodeText(api.NameNode, "x", 20, 1),
		},
		"when x on{}": {nodeText(api.WhenStmt, "x", 10, 4), node(api.CaseNode, 17, 3), node(api.OnPoint, 17, 1), node(api.BlockNode, 19, 1)},
		"when x(1){}or{2}{fail 3;}": {
			nodeText(api.WhenStmt, "x", 10, 11), node(api.CaseNode, 16, 4), node(api.IntPoint, 16, 2), num(1, 17), node(api.BlockNode, 19, 1),
			node(api.CaseNode, 23, 6), node(api.SetPoint, 23, 2), num(2, 24), node(api.BlockNode, 26, 3), node(api.FailStmt, 27, 2), num(3, 32),
		},
		"each x as k{}":     {nodeText(api.EachStmt, "x", 10, 3), nodeText(api.BindNode, "k", 20, 1), node(api.BlockNode, 21, 1)},
		"all{}":             {node(api.AllStmt, 10, 2), node(api.BlockNode, 13, 1)},
		"freeze x as y;":    {nodeText(api.FreezeStmt, "x", 10, 2), nodeText(api.BindNode, "y", 22, 1)},
		"if 1{}":            {node(api.IfStmt, 10, 3), num(1, 13), node(api.BlockNode, 14, 1)},
		"if 1{}else{all{}}": {node(api.IfStmt, 10, 6), num(1, 13), node(api.BlockNode, 14, 1), node(api.BlockNode, 20, 3), node(api.AllStmt, 21, 2), node(api.BlockNode, 24, 1)},
		"fail 0;":           {node(api.FailStmt, 10, 2), num(0, 15)},
		"put x on;":         {nodeText(api.PutStmt, "x", 10, 2), node(api.OnPoint, 16, 1)},
		"put x ((1)+2);":    {nodeText(api.PutStmt, "x", 10, 5), node(api.IntPoint, 16, 4), node(api.AddNode, 20, 3), num(1, 18), num(2, 21)},
		"put x #a;":         {nodeText(api.PutStmt, "x", 10, 2), nodeText(api.NamePoint, "a", 16, 1)},
		"put x{1,y};":       {nodeText(api.PutStmt, "x", 10, 4), node(api.SetPoint, 15, 3), num(1, 16), nodeText(api.NameNode, "y", 18, 1)},
		"put x[1][2]on;":    {nodeText(api.PutStmt, "x", 10, 6), node(api.KeyPoint, 15, 5), num(1, 16), node(api.KeyPoint, 18, 3), num(2, 19), node(api.OnPoint, 21, 1)},
		"put x pair(on,);":  {nodeText(api.PutStmt, "x", 10, 3), {Kind: api.PairPoint, N: 1, At: 16, Size: 2}, node(api.OnPoint, 21, 1)},
		"put x pair(,#a);":  {nodeText(api.PutStmt, "x", 10, 3), {Kind: api.PairPoint, N: 2, At: 16, Size: 2}, nodeText(api.NamePoint, "a", 22, 1)},
		"put x pair(on,pair(1,));": {
			nodeText(api.PutStmt, "x", 10, 6), {Kind: api.PairPoint, N: 3, At: 16, Size: 5}, node(api.OnPoint, 21, 1), {Kind: api.PairPoint, N: 1, At: 24, Size: 3}, node(api.IntPoint, 29, 2), num(1, 29),
		},
	} {
		root := []api.TreeNode{node(api.ProgramNode, 0, len(want)+3), nodeText(api.TaskItem, "f", 0, len(want)+2), node(api.BlockNode, 8, len(want)+1)}
		x := parsed(t, "task f(){ "+s+"}")
		if !slices.Equal(x.Nodes, append(root, want...)) {
			t.Errorf("Parse of %q: %v", s, x.Nodes)
		}
	}
}

// P2.1: exprs, the places of their signs, and what belongs together.
func TestParseExprs(t *testing.T) {
	for s, want := range map[string][]api.TreeNode{
		"1":             {num(1, 0)},
		"1000000000":    {num(1000000000, 0)},
		"((x))":         {nodeText(api.NameNode, "x", 2, 1)},
		"--x":           {node(api.NegNode, 0, 3), node(api.NegNode, 1, 2), nodeText(api.NameNode, "x", 2, 1)},
		"-(x)":          {node(api.NegNode, 0, 2), nodeText(api.NameNode, "x", 2, 1)},
		"size(x)":       {nodeText(api.SizeNode, "x", 0, 1)},
		"has(x,(1))":    {nodeText(api.HasNode, "x", 0, 2), num(1, 7)},
		"value(x,1)":    {nodeText(api.ValueNode, "x", 0, 2), num(1, 8)},
		"1==2":          {node(api.EqNode, 1, 3), num(1, 0), num(2, 3)},
		"1!=2":          {node(api.NeNode, 1, 3), num(1, 0), num(2, 3)},
		"1<2":           {node(api.LtNode, 1, 3), num(1, 0), num(2, 2)},
		"1<=2":          {node(api.LeNode, 1, 3), num(1, 0), num(2, 3)},
		"1>2":           {node(api.GtNode, 1, 3), num(1, 0), num(2, 2)},
		"1>=2":          {node(api.GeNode, 1, 3), num(1, 0), num(2, 3)},
		"1-2-3":         {node(api.SubNode, 3, 5), node(api.SubNode, 1, 3), num(1, 0), num(2, 2), num(3, 4)},
		"1-(2-3)":       {node(api.SubNode, 1, 5), num(1, 0), node(api.SubNode, 4, 3), num(2, 3), num(3, 5)},
		"1+2-3":         {node(api.SubNode, 3, 5), node(api.AddNode, 1, 3), num(1, 0), num(2, 2), num(3, 4)},
		"1/2*3":         {node(api.MulNode, 3, 5), node(api.DivNode, 1, 3), num(1, 0), num(2, 2), num(3, 4)},
		"1+2*3":         {node(api.AddNode, 1, 5), num(1, 0), node(api.MulNode, 3, 3), num(2, 2), num(3, 4)},
		"(1+2)*3":       {node(api.MulNode, 5, 5), node(api.AddNode, 2, 3), num(1, 1), num(2, 3), num(3, 6)},
		"-1*-2":         {node(api.MulNode, 2, 5), node(api.NegNode, 0, 2), num(1, 1), node(api.NegNode, 3, 2), num(2, 4)},
		"1-2<3*4":       {node(api.LtNode, 3, 7), node(api.SubNode, 1, 3), num(1, 0), num(2, 2), node(api.MulNode, 5, 3), num(3, 4), num(4, 6)},
		"(1<2)==(3>=4)": {node(api.EqNode, 5, 7), node(api.LtNode, 2, 3), num(1, 1), num(2, 3), node(api.GeNode, 9, 3), num(3, 8), num(4, 11)},
	} {
		x := parsed(t, "task f(){fail "+s+";}")
		want = slices.Clone(want)
		for i := range want {
			want[i].At += 14
		}
		if !slices.Equal(x.Nodes[4:], want) || x.Nodes[3] != node(api.FailStmt, 9, len(want)+1) {
			t.Errorf("Parse of %q: %v", s, x.Nodes)
		}
	}
}

// P2.1, P2.6: trees that are written with brackets and gaps of all sorts are read as they are, with places and ranges.
func TestParseWritten(t *testing.T) {
	for seed := range 600 {
		w := newWriter(rand.New(rand.NewSource(int64(seed))))
		p := smallPlant(seed)
		s := w.text(p)
		if len(s) > api.MaxText || len(w.tokens) > api.MaxTokens {
			continue
		}
		want := p.nodes()
		at, spans := w.places()
		for i := range want {
			want[i].At = at[i]
		}
		x := parsed(t, s)
		if !slices.Equal(x.Nodes, want) {
			t.Fatalf("Parse of %q: %v; not %v", s, x.Nodes, want)
		}
		for i, span := range spans {
			if r, e := parse.Range(s, i); r != span || e != api.OK {
				t.Fatalf("Range of %q, %d: %v, %v; not %v", s, i, r, e, span)
			}
		}
	}
}

// row returns a number with others added to it, as often as is said.
func row(many int) string { return "1" + strings.Repeat("+1", many) }

// manyNodes returns a task with a number of nodes, from 576 to 628 with the ProgramNode.
func manyNodes(many int) string {
	rest := many - 576 // the last statement has one node itself, and one more for its number
	s := "task f(){" + strings.Repeat("fail "+row(25)+";", 11)
	return s + "fail " + strings.Repeat("-", (rest+1)%2) + row((rest-1)/2) + ";}"
}

// P2.1: the limits, which can be reached, and the order of the errors.
func TestParseLimits(t *testing.T) {
	for many := 578; many < 600; many++ {
		if x := parsed(t, manyNodes(many)); len(x.Nodes) != many {
			t.Fatalf("%d nodes, not %d", len(x.Nodes), many)
		}
	}
	if x := parsed(t, manyNodes(api.MaxNodes)); len(x.Nodes) != api.MaxNodes {
		t.Errorf("Parse of as many nodes as there may be: %d", len(x.Nodes))
	}
	deep := func(many int) string { return "task f(){fail " + strings.Repeat("-", many) + "1;}" }
	blocks := func(many int) string {
		return "task f(){" + strings.Repeat("all{", many) + strings.Repeat("}", many) + "}"
	}
	parsed(t, deep(25))
	parsed(t, blocks(13))
	for _, x := range []struct {
		s  string
		at int
		e  api.Errno
	}{
		{manyNodes(api.MaxNodes + 1), 0, api.ErrLimit},
		{" " + deep(26), 0, api.ErrLimit},
		{blocks(14), 0, api.ErrLimit},
		{blocks(220), 0, api.ErrLimit},
		{"task f(){fail " + strings.Repeat("(", 440) + "1" + strings.Repeat(")", 440) + ";}", 0, api.OK},
		{deep(26) + ";", len(deep(26)), api.ErrForm},
		{manyNodes(api.MaxNodes+1) + " x", len(manyNodes(api.MaxNodes+1)) + 1, api.ErrForm},
		{deep(26) + "use f(int,int,int,int,int,int);", 0, api.ErrLimit},
		{"use f(int,int,int,int,int,int);" + deep(26), 0, api.ErrLimit},
		{"use f(int,int,int,int,int,int);" + deep(25) + "x", 31 + len(deep(25)), api.ErrForm},
		{"use f(); &" + strings.Repeat("x", api.MaxText), 0, api.ErrLimit},
		{"use f(); &", 9, api.ErrForm},
		{"x & ", 2, api.ErrForm},
		{"x \x00", 2, api.ErrForm},
		{strings.Repeat(";", api.MaxTokens) + " ;", api.MaxTokens + 1, api.ErrLimit},
		{strings.Repeat(";", api.MaxTokens), 0, api.ErrForm},
	} {
		tree, at, e := parse.Parse(x.s)
		if at != x.at || e != x.e || e != api.OK && tree.Nodes != nil {
			t.Errorf("Parse of %.40q: %v at %d; not %v at %d", x.s, e, at, x.e, x.at)
		}
	}
}

// sized returns texts that have as much of something as is said, with the limit of this, and the place of the node that has it.
func sized(many int) []struct {
	s        string
	at, most int
} {
	repeat := func(s, between string) string { return strings.Repeat(between+s, many)[len(between):] }
	return []struct {
		s        string
		at, most int
	}{
		{repeat("use f(); ", " "), 0, api.MaxItems},
		{"lattice t{" + repeat("a", ";") + "}", 0, api.MaxElems},
		{"lattice t{a;b:" + repeat("a", ",") + "}", 12, api.MaxElems},
		{" use f(" + repeat("int", ",") + ");", 1, api.MaxParams},
		{"use f();task f(" + repeat("a:int", ",") + "){}", 8, api.MaxParams},
		{"task f(){spawn f(" + repeat("1", ",") + ");}", 9, api.MaxParams},
		{"task f()" + "{" + repeat("all{}", "") + "}", 8, api.MaxStmts},
		{"task f(){all{" + repeat("fail 1;", "") + "}}", 12, api.MaxStmts},
		{"task f(){when x " + repeat("1{}", "or ") + "}", 9, api.MaxCases},
		{"task f(){when x {" + repeat("1", ",") + "}{}}", 16, api.MaxPoint},
		{"task f(){put x {" + repeat("1+2", ",") + "};}", 15, api.MaxPoint},
	}
}

// P2.1: each size can be reached, and what has too much is found.
func TestParseSizes(t *testing.T) {
	for many := 1; many < 20; many++ {
		for _, x := range sized(many) {
			_, at, e := parse.Parse(x.s)
			if many <= x.most && (at != 0 || e != api.OK) || many > x.most && (at != x.at || e != api.ErrRange) {
				t.Errorf("Parse of %.40q with %d: %v at %d", x.s, many, e, at)
			}
		}
	}
}

// P2.1: of several nodes that have too much that with the smallest number counts, wherever they end.
func TestParseFirstSize(t *testing.T) {
	six, five := "(1,1,1,1,1,1);", "{1,1,1,1,1}"
	for s, at := range map[string]int{
		"task f(){put x " + five + ";spawn f" + six + "}":                                       15,
		"task f(){spawn f" + six + "put x " + five + ";}":                                       9,
		"task f(){" + strings.Repeat("put x "+five+";", 13) + "}":                               8,
		"task f(a:int,a:int,a:int,a:int,a:int,a:int){put x " + five + ";}":                      0,
		"use f();task f(){if 1{all{when x 1{}or " + five + "{}or 1{}or 1{}or " + five + "{}}}}": 26,
		"use f();" + strings.Repeat("use f(max,max,max,max,max,max);", 2):                       8,
		"use g(max,max,max,max,max,max);" + strings.Repeat("use f();", 16):                      0,
	} {
		if _, place, e := parse.Parse(s); place != at || e != api.ErrRange {
			t.Errorf("Parse of %.60q: %v at %d, not at %d", s, e, place, at)
		}
	}
}

// P2.1: what the grammar does not go on with; see also the tests by the grammar.
func TestParseErrors(t *testing.T) {
	for s, at := range map[string]int{
		"lattice":                        7,
		"lattice t { } ":                 12,
		"lattice t { a; }":               15,
		"lattice t { a: }":               15,
		"lattice t { a != }":             14,
		"lattice t { a: b!; }":           16,
		"lattice task { a }":             8,
		"use f();;":                      8,
		"use f()":                        7,
		"use f(,);":                      6,
		"task f {}":                      7,
		"task f(int) {}":                 7,
		"task f(a) {}":                   8,
		"task f() {":                     10,
		"task f() {} }":                  12,
		"task f() { new x: map(int); }":  22,
		"task f() { new x: pair(set); }": 26,
		"task f() { put x; }":            16,
		"task f() { put x pair(,); }":    23,
		"task f() { put x pair(on); }":   24,
		"task f() { put x pair(); }":     22,
		"task f() { put x [1]; }":        20,
		"task f() { put x []on; }":       18,
		"task f() { put x #1; }":         18,
		"task f() { put x on on; }":      20,
		"task f() { put x (on); }":       18,
		"task f() { fail on; }":          16,
		"task f() { fail ; }":            16,
		"task f() { fail 1 == 2 == 3; }": 23,
		"task f() { fail 1 + ; }":        20,
		"task f() { fail (1; }":          18,
		"task f() { fail size(1); }":     21,
		"task f() { fail has(x); }":      21,
		"task f() { fail value(x,); }":   24,
		"task f() { fail ---; }":         19,
		"task f() { all { } else { } }":  19,
		"task f() { if 1 { } or { } }":   20,
		"task f() { when x 1 { } or { }": 29,
		"task f() { each x as 1 { } }":   21,
		"task f() { freeze x as y { } }": 25,
		"task f() { let 1 = 1; }":        15,
		"task f() { let a == 1; }":       17,
		"task f() { spawn f(1,); }":      21,
		"task f() { spawn f(); } 1":      24,
		"task f() { task g() { } }":      11,
	} {
		if x, place, e := parse.Parse(s); place != at || e != api.ErrForm || x.Nodes != nil {
			t.Errorf("Parse of %q: %v at %d, not at %d", s, e, place, at)
		}
	}
}

// P2.6: errors of ranges; brackets and gaps at the ends.
func TestRangeErrors(t *testing.T) {
	s := "task f() { fail 1; }"
	for node, want := range map[int]api.Errno{-1: api.ErrNone, 5: api.ErrNone, 1 << 62: api.ErrNone, -1 << 62: api.ErrNone} {
		if r, e := parse.Range(s, node); r != (api.Stretch{}) || e != want {
			t.Errorf("Range of %d: %v, %v", node, r, e)
		}
	}
	for s, want := range map[string]api.Errno{"task f() {": api.ErrForm, "&": api.ErrForm, manyNodes(601): api.ErrLimit, strings.Repeat("use f();", 17): api.ErrRange} {
		if r, e := parse.Range(s, -1); r != (api.Stretch{}) || e != want {
			t.Errorf("Range of %.30q: %v, %v", s, r, e)
		}
	}
	if r, e := parse.Range("", 0); r != (api.Stretch{}) || e != api.OK {
		t.Errorf("Range of nothing: %v, %v", r, e)
	}
	if r, e := parse.Range(" use f() ;%", 0); r != (api.Stretch{From: 1, To: 10}) || e != api.OK {
		t.Errorf("Range of a program: %v, %v", r, e)
	}
	u := "task f() { put x ((1)) ; fail -((2)) < (3); }"
	for node, want := range map[int]string{4: "((1))", 5: "1", 7: "-((2)) < (3)", 8: "-((2))", 9: "2", 10: "3"} {
		r, e := parse.Range(u, node)
		if e != api.OK || u[r.From:r.To] != want {
			t.Errorf("Range of %d: %v, %v", node, r, e)
		}
	}
}

// P2.13: ranges lie in each other, and beside each other.
func TestRangesNest(t *testing.T) {
	for seed := range 60 {
		s := newWriter(rand.New(rand.NewSource(int64(seed)))).text(smallPlant(seed + 5000))
		if len(s) > api.MaxText {
			continue
		}
		x := parsed(t, s)
		for i := range x.Nodes {
			outer, _ := parse.Range(s, i)
			l, _ := parse.Kids(x, i)
			last := outer.From
			for _, k := range l {
				r, _ := parse.Range(s, k)
				if r.From < last || r.To <= r.From || r.To > outer.To {
					t.Fatalf("%q: node %d at %v, its kid %d at %v", s, i, outer, k, r)
				}
				last = r.To
			}
		}
	}
}
