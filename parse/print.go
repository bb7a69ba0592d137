package parse

import (
	"strings"

	"dripstone/api"
)

// Print returns the text of a tree.
func Print(t api.Tree) (string, api.Errno) { return Show(t, 0) }

// Show returns the text of a node.
func Show(t api.Tree, node int) (string, api.Errno) {
	if e := checkNode(t, node); e != api.OK {
		return "", e
	}
	p := &printer{Tree: t}
	p.node(node)
	if p.out.Len() > api.MaxText {
		return "", api.ErrLimit
	}
	return p.out.String(), api.OK
}

// printer writes nodes of a tree.
type printer struct {
	api.Tree
	out    strings.Builder
	margin string // of the line in which the innermost block begins
}

// say writes texts.
func (p *printer) say(texts ...string) {
	for _, s := range texts {
		p.out.WriteString(s)
	}
}

// node writes a node.
func (p *printer) node(i int) {
	n := p.Nodes[i]
	l := kids(p.Tree, i)
	switch n.Kind {
	case api.ProgramNode:
		p.lines("", l)
	case api.TaskItem:
		block := len(l) - 1
		p.framed(n, l[:block], frame{"task " + n.Text + "(", ", ", ") "})
		p.node(l[block])
	case api.BlockNode:
		p.block(l)
	case api.IfStmt:
		p.framed(n, l[:1], frame{"if ", "", " "})
		p.framed(n, l[1:], frame{"", " else ", ""})
	default:
		p.framed(n, l, frameOf(n))
	}
}

// lines writes nodes on lines of their own.
func (p *printer) lines(margin string, l []int) {
	for _, i := range l {
		p.say(margin)
		p.node(i)
		p.say("\n")
	}
}

// block writes statements as a block.
func (p *printer) block(stmts []int) {
	margin := p.margin
	p.margin = margin + "  "
	p.say("{\n")
	p.lines(p.margin, stmts)
	p.say(margin, "}")
	p.margin = margin
}

// framed writes kids of a node with a frame.
func (p *printer) framed(n api.TreeNode, l []int, f frame) {
	p.say(f.before)
	for number, kid := range l {
		if number > 0 {
			p.say(f.between)
		}
		p.operand(kid, leastRank(n.Kind, number))
	}
	p.say(f.behind)
}

// operand writes a node, in brackets if its rank is too small where it stands.
func (p *printer) operand(i, least int) {
	if rank(p.Nodes[i].Kind) >= least {
		p.node(i)
		return
	}
	p.say("(")
	p.node(i)
	p.say(")")
}

// rank returns how firmly an expr holds together: of two that could have the same operand that of the greater rank has it.
func rank(kind uint8) int {
	switch kind {
	case api.EqNode, api.NeNode, api.LtNode, api.LeNode, api.GtNode, api.GeNode:
		return 1
	case api.AddNode, api.SubNode:
		return 2
	case api.MulNode, api.DivNode:
		return 3
	case api.NegNode:
		return 4
	}
	return 5
}

// leastRank returns the rank from which on the kid of a node with a number needs no brackets.
func leastRank(kind uint8, number int) int {
	switch r := rank(kind); r {
	case 1:
		return 2
	case 2, 3:
		// Rows are read from left to right: only the left operand can be one of the same rank.
		return r + number
	case 4:
		return 4
	}
	return 0
}
