package check_test

import (
	"fmt"
	"slices"
	"strings"

	"dripstone/api"
	"dripstone/elem"
	"dripstone/order"
)

// model is a second writing of the chapter's definitions. It goes through a tree once, with what is in sight, the level and the pools in hand, and notes all errors that it meets.
type model struct {
	api.Tree
	kids   [][]int
	up     []int
	item   []int
	level  []int
	pools  [][]int // of each node, the innermost one last
	sight  []map[string]int
	means  []int
	kind   map[int]uint8  // of the type of each declaration
	shape  map[int]string // of what each declaration declares, as a text
	errors [3]map[int][]api.Errno
}

// modelOf returns the model of a tree that has its form. The errors of a group are there only if there are none of the groups before.
func modelOf(x api.Tree) *model {
	n := len(x.Nodes)
	m := &model{Tree: x, kids: make([][]int, n), up: make([]int, n), item: make([]int, n), level: make([]int, n), pools: make([][]int, n), sight: make([]map[string]int, n), means: make([]int, n), kind: map[int]uint8{}, shape: map[int]string{}}
	m.up[0] = -1
	for i, n := range x.Nodes {
		for kid := i + 1; kid < i+n.Size; kid += x.Nodes[kid].Size {
			m.kids[i] = append(m.kids[i], kid)
			m.up[kid] = i
		}
		m.means[i], m.item[i], m.level[i] = -1, -1, -1
	}
	for i := range m.errors {
		m.errors[i] = map[int][]api.Errno{}
	}
	for _, item := range m.kids[0] {
		m.walkItem(item)
	}
	if len(m.errors[0]) == 0 {
		m.walkPoints()
		m.types()
	}
	if len(m.errors[0])+len(m.errors[1]) == 0 {
		m.growth()
	}
	return m
}

func (m *model) fault(group, node int, e api.Errno) {
	m.errors[group][node] = append(m.errors[group][node], e)
}

// first returns the error of a module, and its node.
func (m *model) first() (int, api.Errno) {
	for _, group := range m.errors {
		for i := range m.Nodes {
			if len(group[i]) > 0 {
				return i, group[i][0]
			}
		}
	}
	return 0, api.OK
}

// find returns the first one of some nodes with a kind and a text.
func (m *model) find(l []int, text string, kinds ...uint8) int {
	for _, i := range l {
		if m.Nodes[i].Text == text && slices.Contains(kinds, m.Nodes[i].Kind) {
			return i
		}
	}
	return -1
}

func (m *model) walkItem(item int) {
	text := m.Nodes[item].Text
	calls := []uint8{api.UseItem, api.TaskItem}
	if m.Nodes[item].Kind == api.LatticeItem {
		calls = []uint8{api.LatticeItem}
	}
	if m.find(m.kids[0], text, calls...) != item {
		m.fault(0, item, api.ErrTwice)
	}
	switch m.Nodes[item].Kind {
	case api.LatticeItem:
		m.walkLattice(item)
	case api.UseItem:
		m.walkTypes(item)
	case api.TaskItem:
		names := map[string]int{}
		sight := map[string]int{}
		block := len(m.kids[item]) - 1
		m.level[item] = item
		for _, p := range m.kids[item][:block] {
			m.declare(p, names)
			sight[m.Nodes[p].Text] = p
			m.walkTypes(p)
		}
		w := walk{model: m, item: item, level: item, names: names}
		w.block(m.kids[item][block], sight)
		for i := item; i < item+m.Nodes[item].Size; i++ {
			if m.item[i] < 0 {
				m.item[i], m.level[i] = item, item
			}
		}
	}
}

func (m *model) walkLattice(item int) {
	for _, el := range m.kids[item] {
		if m.find(m.kids[item], m.Nodes[el].Text, api.ElemNode) != el {
			m.fault(0, el, api.ErrTwice)
		}
		for _, above := range m.kids[el] {
			m.means[above] = m.find(m.kids[item], m.Nodes[above].Text, api.ElemNode)
			if m.means[above] < 0 {
				m.fault(0, above, api.ErrName)
			}
		}
	}
}

// walkTypes goes through the types below a node.
func (m *model) walkTypes(node int) {
	for _, kid := range m.kids[node] {
		if m.Nodes[kid].Kind == api.NamedType {
			m.means[kid] = m.find(m.kids[0], m.Nodes[kid].Text, api.LatticeItem)
			if m.means[kid] < 0 {
				m.fault(0, kid, api.ErrName)
			}
		}
		if isShape(m.Nodes[kid].Kind) {
			m.walkTypes(kid)
		}
	}
}

// declare notes a declaration of a task, and its type.
func (m *model) declare(node int, names map[string]int) {
	text := m.Nodes[node].Text
	if _, ok := names[text]; ok {
		m.fault(0, node, api.ErrTwice)
	} else {
		names[text] = node
	}
	m.kind[node] = api.TypeInt
	switch m.Nodes[node].Kind {
	case api.NewStmt:
		m.kind[node] = api.TypeOwn
	case api.ShareStmt:
		m.kind[node] = api.TypeShared
	case api.ParamNode:
		if m.Nodes[m.kids[node][0]].Kind != api.IntType {
			m.kind[node] = api.TypeShared
		}
	case api.BindNode:
		if up := m.up[node]; m.Nodes[up].Kind == api.FreezeStmt {
			m.kind[node] = api.TypeFrozen
			m.shape[node] = m.shape[m.means[up]]
		}
		return
	}
	if m.kind[node] != api.TypeInt {
		m.shape[node] = shown(m.Tree, m.kids[node][0])
	}
}

// walk is where one is in a task.
type walk struct {
	*model
	item, level int
	pools       []int
	names       map[string]int
}

// place notes where a node is, and all below it.
func (w walk) place(node int, sight map[string]int) {
	w.model.item[node], w.model.level[node], w.model.pools[node], w.model.sight[node] = w.item, w.level, w.pools, sight
	for _, kid := range w.kids[node] {
		w.place(kid, sight)
	}
}

// block goes through a block; what it declares is gone behind it.
func (w walk) block(node int, sight map[string]int) {
	now := map[string]int{}
	for k, v := range sight {
		now[k] = v
	}
	for _, stmt := range w.kids[node] {
		then := map[string]int{}
		for k, v := range now {
			then[k] = v
		}
		w.place(stmt, then)
		w.stmt(stmt, then)
		switch n := w.Nodes[stmt]; n.Kind {
		case api.NewStmt, api.ShareStmt, api.LetStmt:
			now[n.Text] = stmt
		case api.FreezeStmt:
			bind := w.kids[stmt][0]
			now[w.Nodes[bind].Text] = bind
		}
	}
}

func (w walk) stmt(node int, sight map[string]int) {
	n := w.Nodes[node]
	switch n.Kind {
	case api.PutStmt, api.WhenStmt, api.EachStmt, api.FreezeStmt:
		w.use(node, sight)
	case api.SpawnStmt:
		w.means[node] = w.find(w.kids[0], n.Text, api.UseItem, api.TaskItem)
		if w.means[node] < 0 {
			w.fault(0, node, api.ErrName)
		}
	case api.NewStmt, api.ShareStmt, api.LetStmt:
		w.declare(node, w.names)
		w.walkTypes(node)
	}
	for _, kid := range w.kids[node] {
		switch w.Nodes[kid].Kind {
		case api.BindNode:
			w.declare(kid, w.names)
		case api.BlockNode:
			w.inner(node, kid, sight)
		case api.CaseNode:
			w.exprs(w.kids[kid][0], sight)
			w.block(w.kids[kid][1], sight)
		default:
			w.exprs(kid, sight)
		}
	}
}

// inner goes through a block of a statement.
func (w walk) inner(stmt, block int, sight map[string]int) {
	switch w.Nodes[stmt].Kind {
	case api.EachStmt:
		w.level, w.pools = stmt, nil
		more := map[string]int{}
		for k, v := range sight {
			more[k] = v
		}
		bind := w.kids[stmt][0]
		more[w.Nodes[bind].Text] = bind
		sight = more
	case api.AllStmt:
		w.pools = append(slices.Clone(w.pools), stmt)
	}
	w.block(block, sight)
}

// exprs goes through the exprs in a point or an expr.
func (w walk) exprs(node int, sight map[string]int) {
	switch w.Nodes[node].Kind {
	case api.NameNode, api.SizeNode, api.HasNode, api.ValueNode:
		w.use(node, sight)
	}
	for _, kid := range w.kids[node] {
		w.exprs(kid, sight)
	}
}

func (w walk) use(node int, sight map[string]int) {
	if decl, ok := sight[w.Nodes[node].Text]; ok {
		w.means[node] = decl
	} else {
		w.fault(0, node, api.ErrName)
	}
}

func isVariableKind(kind uint8) bool { return kind == api.TypeOwn || kind == api.TypeShared }

// walkPoints goes through the points of all statements, with the shapes that they are for.
func (m *model) walkPoints() {
	for i, n := range m.Nodes {
		switch {
		case n.Kind == api.PutStmt && isVariableKind(m.kind[m.means[i]]):
			m.point(m.kids[i][0], m.shape[m.means[i]])
		case n.Kind == api.CaseNode && isVariableKind(m.kind[m.means[m.up[i]]]):
			m.point(m.kids[i][0], m.shape[m.means[m.up[i]]])
		}
	}
}

// parts returns the texts of the kids of a shape.
func parts(shape string) []string {
	_, in, ok := strings.Cut(shape, "(")
	if !ok {
		return nil
	}
	in = in[:len(in)-1]
	deep := 0
	for i, c := range in {
		switch c {
		case '(':
			deep++
		case ')':
			deep--
		case ',':
			if deep == 0 {
				return []string{in[:i], in[i+2:]}
			}
		}
	}
	return []string{in}
}

func (m *model) point(node int, shape string) {
	word, _, _ := strings.Cut(shape, "(")
	n := m.Nodes[node]
	want := map[uint8][]string{api.OnPoint: {"flag"}, api.IntPoint: {"max", "once"}, api.SetPoint: {"set"}, api.KeyPoint: {"map"}, api.PairPoint: {"pair"}}[n.Kind]
	if n.Kind == api.NamePoint {
		lattice := m.find(m.kids[0], shape, api.LatticeItem)
		if lattice >= 0 {
			m.means[node] = m.find(m.kids[lattice][1:], n.Text, api.ElemNode)
		}
		if m.means[node] < 0 {
			m.fault(1, node, api.ErrType)
		}
		return
	}
	if !slices.Contains(want, word) {
		m.fault(1, node, api.ErrType)
		return
	}
	switch {
	case n.Kind == api.KeyPoint:
		m.point(m.kids[node][1], parts(shape)[0])
	case n.Kind == api.PairPoint && n.N == 2:
		m.point(m.kids[node][0], parts(shape)[1])
	case n.Kind == api.PairPoint:
		for i, kid := range m.kids[node] {
			m.point(kid, parts(shape)[i])
		}
	}
}

func (m *model) table(item int) api.Table {
	t := api.Table{Name: m.Nodes[item].Text}
	for _, el := range m.kids[item] {
		t.Elems = append(t.Elems, m.Nodes[el].Text)
		t.Wrong = append(t.Wrong, m.Nodes[el].N > 0)
		var above []int
		for i, other := range m.kids[item] {
			for _, x := range m.kids[el] {
				if m.Nodes[x].Text == m.Nodes[other].Text && !slices.Contains(above, i) {
					above = append(above, i)
				}
			}
		}
		t.Above = append(t.Above, above)
	}
	return t
}

func (m *model) tables() []api.Table {
	var l []api.Table
	for _, item := range m.kids[0] {
		if m.Nodes[item].Kind == api.LatticeItem {
			l = append(l, m.table(item))
		}
	}
	return l
}

// params returns the texts of the types of the parameters of an item.
func (m *model) params(item int) []string {
	var l []string
	for _, kid := range m.kids[item] {
		switch m.Nodes[kid].Kind {
		case api.BlockNode:
		case api.ParamNode:
			l = append(l, shown(m.Tree, m.kids[kid][0]))
		default:
			l = append(l, shown(m.Tree, kid))
		}
	}
	return l
}

func (m *model) types() {
	lattices := 0
	for i, n := range m.Nodes {
		switch n.Kind {
		case api.LatticeItem:
			if lattices++; lattices > 8 {
				m.fault(1, i, api.ErrLimit)
			}
			if _, e := order.Prove(m.table(i)); e != api.OK {
				m.fault(1, i, api.ErrFalse)
			}
		case api.ParamNode, api.UseItem, api.NewStmt, api.ShareStmt:
			for _, kid := range m.kids[i] {
				if _, e := order.ParseShape(shown(m.Tree, kid)); e == api.ErrLimit {
					m.fault(1, kid, api.ErrLimit)
				}
			}
		case api.PutStmt, api.WhenStmt, api.EachStmt, api.FreezeStmt:
			word, _, _ := strings.Cut(m.shape[m.means[i]], "(")
			if !isVariableKind(m.kind[m.means[i]]) || n.Kind == api.EachStmt && word != "set" && word != "map" {
				m.fault(1, i, api.ErrType)
			}
		case api.SpawnStmt:
			m.spawnTypes(i)
		case api.NameNode:
			if m.Nodes[m.up[i]].Kind != api.SpawnStmt && m.kind[m.means[i]] != api.TypeInt {
				m.fault(1, i, api.ErrType)
			}
		case api.SizeNode, api.HasNode, api.ValueNode:
			words := []string{"set", "map"}
			if n.Kind == api.ValueNode {
				words = []string{"max", "once"}
			}
			word, _, _ := strings.Cut(m.shape[m.means[i]], "(")
			if m.kind[m.means[i]] != api.TypeFrozen || !slices.Contains(words, word) {
				m.fault(1, i, api.ErrType)
			}
		}
	}
}

func (m *model) spawnTypes(node int) {
	params := m.params(m.means[node])
	if len(params) != len(m.kids[node]) {
		m.fault(1, node, api.ErrType)
		return
	}
	for i, kid := range m.kids[node] {
		isName := m.Nodes[kid].Kind == api.NameNode
		kind, shape := uint8(0), ""
		if isName {
			kind, shape = m.kind[m.means[kid]], m.shape[m.means[kid]]
		}
		if params[i] == "int" {
			if isName && kind != api.TypeInt {
				m.fault(1, kid, api.ErrType)
			}
		} else if !isVariableKind(kind) || shape != params[i] {
			m.fault(1, kid, api.ErrType)
		}
	}
}

// own tells whether a declaration is own at a node.
func (m *model) own(decl, node int) bool {
	return decl >= 0 && m.kind[decl] == api.TypeOwn && m.level[decl] == m.level[node]
}

// passed returns the own variables that a node passes on.
func (m *model) passed(node int) map[int]bool {
	out := map[int]bool{}
	add := func(decl int) {
		if m.own(decl, node) {
			out[decl] = true
		}
	}
	switch m.Nodes[node].Kind {
	case api.SpawnStmt:
		for _, kid := range m.kids[node] {
			if m.Nodes[kid].Kind == api.NameNode {
				add(m.means[kid])
			}
		}
	case api.EachStmt:
		for i := node; i < node+m.Nodes[node].Size; i++ {
			add(m.means[i])
		}
	}
	return out
}

// passes returns the statements that pass on the variable of a node before it.
func (m *model) passes(node int) []int {
	var l []int
	for i := range node {
		if m.level[i] == m.level[node] && m.item[i] == m.item[node] && m.passed(i)[m.means[node]] {
			l = append(l, i)
		}
	}
	return l
}

func (m *model) growth() {
	for i, n := range m.Nodes {
		switch n.Kind {
		case api.EachStmt, api.FreezeStmt:
			pools := m.pools[i]
			if !m.own(m.means[i], i) || n.Kind == api.EachStmt && len(pools) == 0 {
				m.fault(2, i, api.ErrState)
				break
			}
			if n.Kind == api.EachStmt {
				pools = pools[:len(pools)-1]
			}
			for _, p := range m.passes(i) {
				if l := m.pools[p]; len(l) > 0 && slices.Contains(pools, l[len(l)-1]) {
					m.fault(2, i, api.ErrState)
				}
			}
		case api.NameNode:
			if m.Nodes[m.up[i]].Kind == api.SpawnStmt && m.own(m.means[i], i) && len(m.pools[i]) == 0 {
				m.fault(2, i, api.ErrState)
			}
		case api.CaseNode:
			m.caseErrors(i)
		}
		if n.Kind == api.FreezeStmt {
			for j := i + 1; j < len(m.Nodes); j++ {
				if m.means[j] == m.means[i] {
					m.fault(2, j, api.ErrState)
				}
			}
		}
	}
}

// value returns an expr as it stands in the text of an element.
func (m *model) value(expr int) (int, bool) {
	s := shown(m.Tree, expr)
	if n := 0; len(s) < 12 {
		if _, err := fmt.Sscanf(s, "%d", &n); err == nil && strings.Trim(s, "-0123456789") == "" && !strings.HasPrefix(s, "--") {
			return n, true
		}
	}
	return 0, false
}

// text returns the text of a point's element, and whether it is constant.
func (m *model) text(point int) (string, bool) {
	kids := m.kids[point]
	switch n := m.Nodes[point]; n.Kind {
	case api.OnPoint:
		return "on", true
	case api.NamePoint:
		return "#" + n.Text, true
	case api.IntPoint:
		n, ok := m.value(kids[0])
		return fmt.Sprint(n), ok
	case api.SetPoint:
		constant := true
		var keys []int
		for _, kid := range kids {
			n, ok := m.value(kid)
			constant = constant && ok
			if !slices.Contains(keys, n) {
				keys = append(keys, n)
			}
		}
		slices.Sort(keys)
		return "{" + strings.Trim(strings.ReplaceAll(fmt.Sprint(keys), " ", ", "), "[]") + "}", constant
	case api.KeyPoint:
		n, ok := m.value(kids[0])
		s, okToo := m.text(kids[1])
		return fmt.Sprintf("[%d: %s]", n, s), ok && okToo
	}
	a, aok := m.text(kids[0])
	switch m.Nodes[point].N {
	case 1:
		return "(" + a + ", none)", aok
	case 2:
		return "(none, " + a + ")", aok
	}
	b, bok := m.text(kids[1])
	return "(" + a + ", " + b + ")", aok && bok
}

// lattice returns that of a variable.
func (m *model) lattice(decl int) api.Lattice {
	shape, _ := order.ParseShape(m.shape[decl])
	return api.Lattice{Tables: m.tables(), Shape: shape}
}

func (m *model) caseErrors(node int) {
	when := m.up[node]
	lattice := m.lattice(m.means[when])
	text, constant := m.text(m.kids[node][0])
	own, e := elem.Parse(lattice, text)
	if e != api.OK {
		panic("no element: " + text)
	}
	if len(m.kids[when]) > 1 && !constant {
		m.fault(2, node, api.ErrFalse)
	}
	if wrong, _ := elem.IsWrong(lattice, own); wrong {
		m.fault(2, node, api.ErrFalse)
	}
	for _, other := range m.kids[when] {
		if other == node {
			break
		}
		text, _ := m.text(m.kids[other][0])
		x, _ := elem.Parse(lattice, text)
		join, _ := elem.Join(lattice, x, own)
		if wrong, _ := elem.IsWrong(lattice, join); !wrong {
			m.fault(2, node, api.ErrFalse)
		}
	}
}

// notes returns what is found out of each node.
func (m *model) notes() api.Notes {
	out := api.Notes{Means: m.means}
	sites := map[int]int{}
	for i, n := range m.Nodes {
		out.Pools = append(out.Pools, len(m.pools[i]))
		x := api.Type{}
		if kind, ok := m.kind[i]; ok {
			x.Kind = kind
			if kind != api.TypeInt {
				x.Shape, _ = order.ParseShape(m.shape[i])
			}
		}
		out.Types = append(out.Types, x)
		site := -1
		if slices.Contains([]uint8{api.NewStmt, api.ShareStmt, api.SpawnStmt, api.WhenStmt, api.EachStmt, api.AllStmt, api.FreezeStmt}, n.Kind) {
			site = sites[m.item[i]]
			sites[m.item[i]]++
		}
		out.Sites = append(out.Sites, site)
	}
	return out
}

// captures returns what nodes in the block of an EachStmt mean outside of it.
func (m *model) captures(each int) []int {
	in := func(node, of int) bool { return of <= node && node < of+m.Nodes[of].Size }
	var l []int
	for decl := range m.Nodes {
		if !isDeclaration(m.Nodes[decl].Kind) || in(decl, each) {
			continue
		}
		for node := range m.Nodes {
			if in(node, m.kids[each][1]) && m.means[node] == decl {
				l = append(l, decl)
				break
			}
		}
	}
	return l
}

// deed is a parameter of an item to which something may be done.
type deed struct{ item, param int }

// can tells whether an item may do something: itself, or by what it spawns, and that by what it spawns.
func (m *model) can(item int, does func(node int) bool, seen map[int]bool) bool {
	if seen[item] {
		return false
	}
	seen[item] = true
	if m.Nodes[item].Kind == api.UseItem {
		return true
	}
	for node := item; node < item+m.Nodes[item].Size; node++ {
		if does(node) || m.Nodes[node].Kind == api.SpawnStmt && m.can(m.means[node], does, seen) {
			return true
		}
	}
	return false
}

// reaches tells whether a parameter comes to a statement of a kind.
func (m *model) reaches(d deed, kind uint8, seen map[deed]bool) bool {
	if seen[d] {
		return false
	}
	seen[d] = true
	if m.Nodes[d.item].Kind == api.UseItem {
		return true
	}
	param := m.kids[d.item][d.param]
	for node := d.item; node < d.item+m.Nodes[d.item].Size; node++ {
		if m.means[node] != param {
			continue
		}
		if m.Nodes[node].Kind == kind {
			return true
		}
		if up := m.up[node]; m.Nodes[node].Kind == api.NameNode && m.Nodes[up].Kind == api.SpawnStmt {
			if m.reaches(deed{m.means[up], slices.Index(m.kids[up], node)}, kind, seen) {
				return true
			}
		}
	}
	return false
}

func (m *model) effects() []api.Effect {
	var out []api.Effect
	for _, item := range m.kids[0] {
		if m.Nodes[item].Kind == api.LatticeItem {
			continue
		}
		is := func(kinds ...uint8) func(int) bool {
			return func(node int) bool { return slices.Contains(kinds, m.Nodes[node].Kind) }
		}
		x := api.Effect{
			Fails:  m.can(item, is(api.FailStmt, api.AddNode, api.SubNode, api.MulNode, api.DivNode), map[int]bool{}),
			Spawns: m.can(item, is(api.SpawnStmt, api.EachStmt), map[int]bool{}),
		}
		for i := range m.params(item) {
			x.Puts = append(x.Puts, m.reaches(deed{item, i}, api.PutStmt, map[deed]bool{}))
			x.Waits = append(x.Waits, m.reaches(deed{item, i}, api.WhenStmt, map[deed]bool{}))
		}
		out = append(out, x)
	}
	return out
}
