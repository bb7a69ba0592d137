package parse_test

import (
	"fmt"
	"math"
	"math/rand"
	"slices"
	"strings"
	"testing"

	"dripstone/api"
	"dripstone/parse"
)

// answers calls all functions, and returns what they answer.
func answers(s string, x, y api.Tree, node int, path []int) string {
	var b strings.Builder
	say := func(l ...any) { fmt.Fprintf(&b, "%v\n", l) }
	tree, at, e := parse.Parse(s)
	say(tree, at, e)
	tree, flaws, at, e := parse.Recover(s)
	say(tree, flaws, at, e)
	r, e := parse.Range(s, node)
	say(r, e)
	say(parse.Check(x))
	text, e := parse.Print(x)
	say(text, e)
	text, e = parse.Show(x, node)
	say(text, e)
	l, e := parse.Kids(x, node)
	say(l, e)
	up, e := parse.Up(x, node)
	say(up, e)
	l, e = parse.Path(x, node)
	say(l, e)
	at, e = parse.Node(x, path)
	say(at, e)
	sub, e := parse.Sub(x, node)
	say(sub, e)
	tree, e = parse.Splice(x, node, y.Nodes)
	say(tree, e)
	is, e := parse.Same(x, y)
	say(is, e)
	return b.String()
}

// strangeTrees returns trees that are right, that are nearly so, and that are nothing of the sort.
func strangeTrees(r *rand.Rand) []api.Tree {
	out := []api.Tree{{}, {Nodes: make([]api.TreeNode, 3)}, {Nodes: make([]api.TreeNode, api.MaxNodes+1)}, chain(25).tree(), chain(500).tree()}
	numbers := []int{math.MinInt, math.MinInt + 1, -1, 0, 1, 2, 3, 600, math.MaxInt - 1, math.MaxInt}
	for range 40 {
		x := smallPlant(r.Intn(1000)).tree()
		out = append(out, x)
		for range 3 {
			x = changed(x, r.Intn(len(x.Nodes)), func(n *api.TreeNode) {
				switch r.Intn(4) {
				case 0:
					n.Kind = uint8(r.Intn(256))
				case 1:
					n.Size = numbers[r.Intn(len(numbers))]
				case 2:
					n.N = numbers[r.Intn(len(numbers))]
				case 3:
					n.Text = []string{"", "task", "\x00", strings.Repeat("x", 5000)}[r.Intn(4)]
				}
			})
			out = append(out, x)
		}
		var any []api.TreeNode
		for range r.Intn(12) {
			any = append(any, api.TreeNode{Kind: uint8(r.Intn(70)), N: r.Intn(4), Text: []string{"", "x"}[r.Intn(2)], Size: r.Intn(9)})
		}
		out = append(out, api.Tree{Nodes: any})
	}
	return out
}

// P1, P2: no call panics, whatever the arguments; equal ones get equal results.
func TestEveryCallAnswers(t *testing.T) {
	r := rand.New(rand.NewSource(5))
	all := make([]byte, 256)
	for i := range all {
		all[i] = byte(i)
	}
	texts := []string{
		"", " ", "%", "&", "\x00", string(all), "x", "}", ";", "task", "task f() {", "task f() { fail", "task f() { {", "lattice t { a: ", "use f(pair(",
		strings.Repeat("x", 3000), strings.Repeat("x ", 901), strings.Repeat("x ", 900), strings.Repeat("task f() {", 150), "task f() { fail " + strings.Repeat("(", 880), "task f() { fail " + strings.Repeat("-", 880), "task f() { put x " + strings.Repeat("pair(", 440),
		"task f() { put x " + strings.Repeat("[1]", 290), "task f() {" + strings.Repeat("all {", 440), "task f() {" + strings.Repeat("when x on {", 220), "use f(" + strings.Repeat("map(", 440), strings.Repeat("}", 900), strings.Repeat("use\n", 600), strings.Repeat("task f() { ; \n", 170),
	}
	trees := strangeTrees(r)
	nodes := []int{math.MinInt, -1, 0, 1, 2, 599, 600, math.MaxInt}
	for i, x := range trees {
		s := texts[i%len(texts)]
		if i >= len(texts) {
			s = flawedText(i)
		}
		y := trees[r.Intn(len(trees))]
		for _, node := range append(nodes, r.Intn(20)) {
			path := []int{r.Intn(3), r.Intn(3) - 1, node}
			if answers(s, x, y, node, path) != answers(s, x, y, node, path) {
				t.Errorf("not the same twice: %.30q, %v, %d", s, x, node)
			}
		}
	}
}

// roomy returns a list with spare room that is not empty, and the whole of it.
func roomy[T any](l []T, spare T) (list, whole []T) {
	whole = append(slices.Clone(l), spare, spare, spare)
	return whole[:len(l)], whole
}

// P2, R4: lists that are passed stay as they are, and so does their spare room; results are other memory.
func TestListsStay(t *testing.T) {
	spare := api.TreeNode{Kind: 77, N: 77, Text: "spare", At: 77, Size: 77}
	nodes, wholeNodes := roomy(parsed(t, every).Nodes, spare)
	by, wholeBy := roomy(plant{kind: api.SetPoint, kids: []plant{{kind: api.NumNode, n: 5}}}.nodes(), spare)
	path, wholePath := roomy([]int{4, 2, 3}, 77)
	keepNodes, keepBy, keepPath := slices.Clone(wholeNodes), slices.Clone(wholeBy), slices.Clone(wholePath)
	x := api.Tree{Nodes: nodes}
	spoil := func(l []api.TreeNode) {
		for i := range l[:cap(l)] {
			l[:cap(l)][i] = spare
		}
	}
	for i := range x.Nodes {
		l, _ := parse.Sub(x, i)
		y, _ := parse.Splice(x, i, by)
		same, _ := parse.Splice(x, i, l)
		none, _ := parse.Splice(x, i, nil)
		all, _ := parse.Splice(x, 0, x.Nodes)
		for _, l := range [][]api.TreeNode{l, y.Nodes, same.Nodes, none.Nodes, all.Nodes} {
			spoil(l)
		}
		parse.Kids(x, i)
		parse.Up(x, i)
		parse.Path(x, i)
		parse.Show(x, i)
	}
	parse.Node(x, path)
	parse.Same(x, x)
	parse.Print(x)
	parse.Check(x)
	if !slices.Equal(wholeNodes, keepNodes) || !slices.Equal(wholeBy, keepBy) || !slices.Equal(wholePath, keepPath) {
		t.Errorf("an argument has changed")
	}
}

// R3: nil and empty lists are the same.
func TestNilAndEmpty(t *testing.T) {
	x := parsed(t, "use f();")
	for _, l := range [][]api.TreeNode{nil, {}} {
		if y, e := parse.Splice(x, 1, l); len(y.Nodes) != 1 || e != api.OK {
			t.Errorf("Splice of nothing: %v, %v", y, e)
		}
		if e := parse.Check(api.Tree{Nodes: l}); e != api.ErrForm {
			t.Errorf("Check of nothing: %v", e)
		}
	}
	for _, path := range [][]int{nil, {}} {
		if node, e := parse.Node(x, path); node != 0 || e != api.OK {
			t.Errorf("Node of no path: %d, %v", node, e)
		}
	}
}
