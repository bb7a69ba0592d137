package parse_test

import (
	"math"
	"regexp"
	"slices"
	"strings"
	"testing"

	"dripstone/api"
	"dripstone/parse"
)

// kindRow is a kind with its letter, whether it has a Text, and its kids as an expression over letters.
type kindRow struct {
	kind   uint8
	letter string
	text   bool
	kids   string
}

var kinds = []kindRow{
	{api.ProgramNode, "G", false, "I{0,16}"},
	{api.LatticeItem, "I", true, "E{1,12}"}, {api.UseItem, "I", true, "[JS]{0,5}"}, {api.TaskItem, "I", true, "R{0,5}B"},
	{api.ElemNode, "E", true, "A{0,12}"}, {api.AboveNode, "A", true, ""}, {api.ParamNode, "R", true, "[JS]"},
	{api.BindNode, "N", true, ""}, {api.BlockNode, "B", false, "T{0,12}"}, {api.CaseNode, "C", false, "PB"},
	{api.IntType, "J", false, ""}, {api.FlagType, "S", false, ""}, {api.MaxType, "S", false, ""}, {api.SetType, "S", false, ""}, {api.OnceType, "S", false, ""},
	{api.NamedType, "S", true, ""}, {api.MapType, "S", false, "S"}, {api.PairType, "S", false, "SS"},
	{api.NewStmt, "T", true, "S"}, {api.ShareStmt, "T", true, "S"}, {api.LetStmt, "T", true, "X"}, {api.PutStmt, "T", true, "P"}, {api.SpawnStmt, "T", true, "X{0,5}"},
	{api.WhenStmt, "T", true, "C{1,4}"}, {api.EachStmt, "T", true, "NB"}, {api.AllStmt, "T", false, "B"}, {api.FreezeStmt, "T", true, "N"}, {api.IfStmt, "T", false, "XBB?"}, {api.FailStmt, "T", false, "X"},
	{api.OnPoint, "P", false, ""}, {api.IntPoint, "P", false, "X"}, {api.SetPoint, "P", false, "X{1,4}"}, {api.NamePoint, "P", true, ""}, {api.KeyPoint, "P", false, "XP"}, {api.PairPoint, "P", false, "PP?"},
	{api.EqNode, "X", false, "XX"}, {api.NeNode, "X", false, "XX"}, {api.LtNode, "X", false, "XX"}, {api.LeNode, "X", false, "XX"}, {api.GtNode, "X", false, "XX"}, {api.GeNode, "X", false, "XX"},
	{api.AddNode, "X", false, "XX"}, {api.SubNode, "X", false, "XX"}, {api.MulNode, "X", false, "XX"}, {api.DivNode, "X", false, "XX"}, {api.NegNode, "X", false, "X"},
	{api.NumNode, "X", false, ""}, {api.NameNode, "X", true, ""}, {api.SizeNode, "X", true, ""}, {api.HasNode, "X", true, "X"}, {api.ValueNode, "X", true, "X"},
}

var aName = regexp.MustCompile(`^[a-z][a-z0-9]{0,11}$`)

// matchers returns the expressions of all kinds.
func matchers() map[string]*regexp.Regexp {
	out := map[string]*regexp.Regexp{}
	for _, k := range kinds {
		out[k.kids] = regexp.MustCompile("^(" + k.kids + ")$")
	}
	return out
}

var kidsOf = matchers()

// isRight tells whether the form of a tree is right, by the table of kinds.
func isRight(l []api.TreeNode) bool {
	if len(l) == 0 || l[0].Kind != api.ProgramNode {
		return false
	}
	_, end := lettersFrom(l, 0)
	return end == len(l)
}

// lettersFrom returns the letter of a node, and where it ends; -1 if anything of it is not right.
func lettersFrom(l []api.TreeNode, i int) (string, int) {
	n := l[i]
	number := slices.IndexFunc(kinds, func(x kindRow) bool { return x.kind == n.Kind })
	if number < 0 || n.Size < 1 || n.Size > len(l)-i || n.At < 0 || n.At > 2500 {
		return "", -1
	}
	k := kinds[number]
	if k.text && (!aName.MatchString(n.Text) || slices.Contains(api.Keywords(), n.Text)) || !k.text && n.Text != "" {
		return "", -1
	}
	letters := ""
	at := i + 1
	for at < i+n.Size {
		letter, end := lettersFrom(l, at)
		if end < 0 {
			return "", -1
		}
		letters, at = letters+letter, end
	}
	if at != i+n.Size || !kidsOf[k.kids].MatchString(letters) {
		return "", -1
	}
	right := n.N == 0
	switch n.Kind {
	case api.NumNode:
		right = n.N >= 0 && n.N <= 1000000000
	case api.ElemNode:
		right = n.N == 0 || n.N == 1
	case api.PairPoint:
		right = (n.N == 1 || n.N == 2) && letters == "P" || n.N == 3 && letters == "PP"
	}
	if !right {
		return "", -1
	}
	return k.letter, at
}

// changed returns a tree with one node changed.
func changed(x api.Tree, node int, change func(n *api.TreeNode)) api.Tree {
	y := api.Tree{Nodes: slices.Clone(x.Nodes)}
	change(&y.Nodes[node])
	return y
}

// checkByTable tests Check of a tree that has not too much.
func checkByTable(t *testing.T, x api.Tree) {
	t.Helper()
	want := api.ErrForm
	if isRight(x.Nodes) {
		want = api.OK
	}
	if e := parse.Check(x); e != want {
		t.Errorf("Check of %v: %v, not %v", x.Nodes, e, want)
	}
}

// P2.2: each node of a tree that has all kinds with each kind, text, number, place and size.
func TestCheckNodes(t *testing.T) {
	x := parsed(t, every)
	seen := map[uint8]bool{}
	for i, n := range x.Nodes {
		seen[n.Kind] = true
		for kind := range 256 {
			checkByTable(t, changed(x, i, func(n *api.TreeNode) { n.Kind = uint8(kind) }))
		}
		for _, text := range []string{"", "x", "abcdefghijkl", "abcdefghijklm", "task", "on", "1", "a1", "1a", "A", "x ", " x", "x y", "x%", "%", "\n", "\xff", "+", strings.Repeat("x", 3000)} {
			checkByTable(t, changed(x, i, func(n *api.TreeNode) { n.Text = text }))
		}
		for _, number := range []int{math.MinInt, -1, 0, 1, 2, 3, 4, api.MaxNumber, api.MaxNumber + 1, math.MaxInt} {
			checkByTable(t, changed(x, i, func(n *api.TreeNode) { n.N = number }))
		}
		for _, at := range []int{math.MinInt, -1, 0, 1, api.MaxText, api.MaxText + 1, math.MaxInt} {
			checkByTable(t, changed(x, i, func(n *api.TreeNode) { n.At = at }))
		}
		for size := -2; size < len(x.Nodes)+2; size++ {
			checkByTable(t, changed(x, i, func(n *api.TreeNode) { n.Size = size }))
		}
		for _, size := range []int{math.MinInt, math.MaxInt, math.MaxInt - i} {
			checkByTable(t, changed(x, i, func(n *api.TreeNode) { n.Size = size }))
		}
	}
	if len(seen) != len(kinds) {
		t.Errorf("the tree has %d kinds of %d", len(seen), len(kinds))
	}
}

// P2.2: kids that are left out, doubled, or in another order.
func TestCheckKids(t *testing.T) {
	x := parsed(t, every)
	resized := func(l []api.TreeNode, node, by int) api.Tree {
		l = slices.Clone(l)
		for i := range node {
			if i+x.Nodes[i].Size > node {
				l[i].Size += by
			}
		}
		return api.Tree{Nodes: l}
	}
	for i := 1; i < len(x.Nodes); i++ {
		end := i + x.Nodes[i].Size
		checkByTable(t, resized(slices.Delete(slices.Clone(x.Nodes), i, end), i, i-end))
		checkByTable(t, resized(slices.Insert(slices.Clone(x.Nodes), end, x.Nodes[i:end]...), i, end-i))
		if end < len(x.Nodes) {
			next := end + x.Nodes[end].Size
			checkByTable(t, api.Tree{Nodes: slices.Concat(x.Nodes[:i], x.Nodes[end:next], x.Nodes[i:end], x.Nodes[next:])})
		}
	}
}

// P2.2: the sizes, and each of the trees that are read.
func TestCheckSizes(t *testing.T) {
	many := func(most int, kid plant, up func(kids []plant) plant) {
		for n := range most + 3 {
			x := up(slices.Repeat([]plant{kid}, n)).tree()
			checkByTable(t, x)
			if n == most && parse.Check(x) != api.OK || n > most && parse.Check(x) != api.ErrForm {
				t.Errorf("Check of %d: %v", n, parse.Check(x))
			}
		}
	}
	program := func(items ...plant) plant { return plant{kind: api.ProgramNode, kids: items} }
	stmts := func(l ...plant) plant {
		return program(plant{kind: api.TaskItem, text: "f", kids: []plant{{kind: api.BlockNode, kids: l}}})
	}
	block, number := plant{kind: api.BlockNode}, plant{kind: api.NumNode}
	many(16, plant{kind: api.UseItem, text: "f"}, func(l []plant) plant { return program(l...) })
	many(12, plant{kind: api.ElemNode, text: "a"}, func(l []plant) plant { return program(plant{kind: api.LatticeItem, text: "t", kids: l}) })
	many(12, plant{kind: api.AboveNode, text: "a"}, func(l []plant) plant {
		return program(plant{kind: api.LatticeItem, text: "t", kids: []plant{{kind: api.ElemNode, text: "a", kids: l}}})
	})
	many(5, plant{kind: api.IntType}, func(l []plant) plant { return program(plant{kind: api.UseItem, text: "f", kids: l}) })
	many(5, plant{kind: api.ParamNode, text: "x", kids: []plant{{kind: api.SetType}}}, func(l []plant) plant {
		return program(plant{kind: api.TaskItem, text: "f", kids: append(l, block)})
	})
	many(5, number, func(l []plant) plant { return stmts(plant{kind: api.SpawnStmt, text: "f", kids: l}) })
	many(12, plant{kind: api.FailStmt, kids: []plant{number}}, func(l []plant) plant { return stmts(l...) })
	many(4, plant{kind: api.CaseNode, kids: []plant{{kind: api.OnPoint}, block}}, func(l []plant) plant { return stmts(plant{kind: api.WhenStmt, text: "x", kids: l}) })
	many(4, number, func(l []plant) plant {
		return stmts(plant{kind: api.PutStmt, text: "x", kids: []plant{{kind: api.SetPoint, kids: l}}})
	})
}

// chain returns a task that fails with a number below many signs.
func chain(signs int) plant {
	x := plant{kind: api.NumNode, n: 1}
	for range signs {
		x = plant{kind: api.NegNode, kids: []plant{x}}
	}
	x = plant{kind: api.BlockNode, kids: []plant{{kind: api.FailStmt, kids: []plant{x}}}}
	return plant{kind: api.ProgramNode, kids: []plant{{kind: api.TaskItem, text: "f", kids: []plant{x}}}}
}

// P2.2: the limits, and the order of the errors.
func TestCheckLimits(t *testing.T) {
	full := parsed(t, manyNodes(api.MaxNodes))
	for _, x := range []struct {
		tree api.Tree
		e    api.Errno
	}{
		{api.Tree{}, api.ErrForm},
		{api.Tree{Nodes: []api.TreeNode{}}, api.ErrForm},
		{api.Tree{Nodes: []api.TreeNode{{Kind: api.ProgramNode, Size: 1}}}, api.OK},
		{api.Tree{Nodes: []api.TreeNode{{Kind: api.ProgramNode, Size: 1, At: 7}}}, api.OK},
		{api.Tree{Nodes: []api.TreeNode{{Kind: api.UseItem, Text: "f", Size: 1}}}, api.ErrForm},
		{api.Tree{Nodes: []api.TreeNode{{Kind: api.ProgramNode, Size: 2}, {Kind: api.ProgramNode, Size: 1}}}, api.ErrForm},
		{api.Tree{Nodes: []api.TreeNode{{Kind: api.ProgramNode, Size: 1}, {Kind: api.UseItem, Text: "f", Size: 1}}}, api.ErrForm},
		{api.Tree{Nodes: make([]api.TreeNode, api.MaxNodes)}, api.ErrForm},
		{api.Tree{Nodes: make([]api.TreeNode, api.MaxNodes+1)}, api.ErrLimit},
		{full, api.OK},
		{api.Tree{Nodes: append(slices.Clone(full.Nodes), num(1, 0))}, api.ErrLimit},
		{chain(25).tree(), api.OK},
		{chain(26).tree(), api.ErrLimit},
		{chain(595).tree(), api.ErrLimit},
		{chain(596).tree(), api.ErrLimit},
		{changed(chain(26).tree(), 30, func(n *api.TreeNode) { n.N = -1 }), api.ErrForm},
		{changed(chain(26).tree(), 1, func(n *api.TreeNode) { n.Text = "task" }), api.ErrForm},
		{changed(chain(26).tree(), 3, func(n *api.TreeNode) { n.Size-- }), api.ErrForm},
	} {
		if e := parse.Check(x.tree); e != x.e {
			t.Errorf("Check of %d nodes: %v, not %v", len(x.tree.Nodes), e, x.e)
		}
	}
}

// P2.2: many long names are names, too.
func TestCheckLongNames(t *testing.T) {
	name := "abcdefghijkl"
	elems := slices.Repeat([]plant{{kind: api.ElemNode, text: name, kids: slices.Repeat([]plant{{kind: api.AboveNode, text: name}}, 12)}}, 3)
	x := plant{kind: api.ProgramNode, kids: slices.Repeat([]plant{{kind: api.LatticeItem, text: name, kids: elems}}, 14)}.tree()
	if e := parse.Check(x); e != api.OK || len(x.Nodes) < 550 {
		t.Errorf("Check of %d nodes: %v", len(x.Nodes), e)
	}
	x.Nodes[len(x.Nodes)-1].Text += "m"
	if e := parse.Check(x); e != api.ErrForm {
		t.Errorf("Check with a text that is no name: %v", e)
	}
}
