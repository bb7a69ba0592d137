package parse

import "dripstone/api"

// class is a row of kinds, any of which can stand in one place of the grammar.
type class struct{ first, last uint8 }

func (c class) has(kind uint8) bool { return c.first <= kind && kind <= c.last }

func anItem() class  { return class{api.LatticeItem, api.TaskItem} }
func anElem() class  { return class{api.ElemNode, api.ElemNode} }
func anAbove() class { return class{api.AboveNode, api.AboveNode} }
func aParam() class  { return class{api.ParamNode, api.ParamNode} }
func aBind() class   { return class{api.BindNode, api.BindNode} }
func aBlock() class  { return class{api.BlockNode, api.BlockNode} }
func aCase() class   { return class{api.CaseNode, api.CaseNode} }
func aType() class   { return class{api.IntType, api.PairType} }
func aShape() class  { return class{api.FlagType, api.PairType} }
func aStmt() class   { return class{api.NewStmt, api.FailStmt} }
func aPoint() class  { return class{api.OnPoint, api.PairPoint} }
func anExpr() class  { return class{api.EqNode, api.ValueNode} }

// part is how many kids of a class stand one behind the other.
type part struct {
	class
	least, most int
}

func one(c class) part { return part{c, 1, 1} }

func two(c class) part { return part{c, 2, 2} }

func many(least, most int, c class) part { return part{c, least, most} }

// rule is what the grammar says of a node: whether it has a Text, from where to where its N is, and its kids.
type rule struct {
	named     bool
	low, high int
	parts     []part
}

// plain returns the rule of nodes without Text.
func plain(parts ...part) rule { return rule{parts: parts} }

// named returns the rule of nodes with a Text.
func named(parts ...part) rule { return rule{named: true, parts: parts} }

// numbered returns a rule with an N.
func (x rule) numbered(low, high int) rule {
	x.low, x.high = low, high
	return x
}

// ruleOf returns the rule of a node; nodes of no kind have none that matters, as no kid can be one.
func ruleOf(n api.TreeNode) rule {
	switch n.Kind {
	case api.ProgramNode:
		return plain(many(0, api.MaxItems, anItem()))
	case api.LatticeItem:
		return named(many(1, api.MaxElems, anElem()))
	case api.UseItem:
		return named(many(0, api.MaxParams, aType()))
	case api.TaskItem:
		return named(many(0, api.MaxParams, aParam()), one(aBlock()))
	case api.ElemNode:
		return named(many(0, api.MaxElems, anAbove())).numbered(0, 1)
	case api.ParamNode:
		return named(one(aType()))
	case api.BlockNode:
		return plain(many(0, api.MaxStmts, aStmt()))
	case api.CaseNode:
		return plain(one(aPoint()), one(aBlock()))
	case api.AboveNode, api.BindNode, api.NamedType, api.NamePoint, api.NameNode, api.SizeNode:
		return named()
	case api.MapType:
		return plain(one(aShape()))
	case api.PairType:
		return plain(two(aShape()))
	case api.NumNode:
		return plain().numbered(0, api.MaxNumber)
	}
	if aStmt().has(n.Kind) {
		return stmtRule(n)
	}
	return valueRule(n)
}

// stmtRule is ruleOf of a statement.
func stmtRule(n api.TreeNode) rule {
	switch n.Kind {
	case api.NewStmt, api.ShareStmt:
		return named(one(aShape()))
	case api.LetStmt:
		return named(one(anExpr()))
	case api.PutStmt:
		return named(one(aPoint()))
	case api.SpawnStmt:
		return named(many(0, api.MaxParams, anExpr()))
	case api.WhenStmt:
		return named(many(1, api.MaxCases, aCase()))
	case api.EachStmt:
		return named(one(aBind()), one(aBlock()))
	case api.AllStmt:
		return plain(one(aBlock()))
	case api.FreezeStmt:
		return named(one(aBind()))
	case api.IfStmt:
		return plain(one(anExpr()), many(1, 2, aBlock()))
	}
	return plain(one(anExpr()))
}

// valueRule is ruleOf of a point or an expr with kids, and of what has neither kids nor Text.
func valueRule(n api.TreeNode) rule {
	switch n.Kind {
	case api.IntPoint, api.NegNode:
		return plain(one(anExpr()))
	case api.SetPoint:
		return plain(many(1, api.MaxPoint, anExpr()))
	case api.KeyPoint:
		return plain(one(anExpr()), one(aPoint()))
	case api.PairPoint:
		points := 1
		if n.N == 3 {
			points = 2
		}
		return plain(many(points, points, aPoint())).numbered(1, 3)
	case api.HasNode, api.ValueNode:
		return named(one(anExpr()))
	case api.EqNode, api.NeNode, api.LtNode, api.LeNode, api.GtNode, api.GeNode,
		api.AddNode, api.SubNode, api.MulNode, api.DivNode:
		return plain(two(anExpr()))
	}
	return plain()
}
