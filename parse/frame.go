package parse

import (
	"strconv"

	"dripstone/api"
)

// frame is what is written before, between and behind the kids of a node.
type frame struct{ before, between, behind string }

// frameOf returns the frame of a node; those of programs, tasks, blocks and ifs are more than that, and are not asked for.
func frameOf(n api.TreeNode) frame {
	switch n.Kind {
	case api.LatticeItem:
		return frame{"lattice " + n.Text + " { ", "; ", " }"}
	case api.UseItem:
		return frame{"use " + n.Text + "(", ", ", ");"}
	case api.ElemNode:
		return elemFrame(n)
	case api.ParamNode:
		return frame{n.Text + ": ", "", ""}
	case api.CaseNode:
		return frame{"", " ", ""}
	case api.IntType:
		return frame{"int", "", ""}
	case api.FlagType, api.MaxType, api.SetType, api.OnceType:
		return frame{plainShapes()[n.Kind-api.FlagType], "", ""}
	case api.MapType:
		return frame{"map(", "", ")"}
	case api.PairType:
		return frame{"pair(", ", ", ")"}
	}
	if aStmt().has(n.Kind) {
		return stmtFrame(n)
	}
	return valueFrame(n)
}

// elemFrame is frameOf of an element of a table.
func elemFrame(n api.TreeNode) frame {
	f := frame{n.Text, ", ", ""}
	if n.N == 1 {
		f.before += "!"
	}
	if n.Size > 1 {
		f.before += ": "
	}
	return f
}

// stmtFrame is frameOf of a statement.
func stmtFrame(n api.TreeNode) frame {
	switch n.Kind {
	case api.NewStmt:
		return frame{"new " + n.Text + ": ", "", ";"}
	case api.ShareStmt:
		return frame{"share " + n.Text + ": ", "", ";"}
	case api.LetStmt:
		return frame{"let " + n.Text + " = ", "", ";"}
	case api.PutStmt:
		return frame{"put " + n.Text + " ", "", ";"}
	case api.SpawnStmt:
		return frame{"spawn " + n.Text + "(", ", ", ");"}
	case api.WhenStmt:
		return frame{"when " + n.Text + " ", " or ", ""}
	case api.EachStmt:
		return frame{"each " + n.Text + " as ", " ", ""}
	case api.AllStmt:
		return frame{"all ", "", ""}
	case api.FreezeStmt:
		return frame{"freeze " + n.Text + " as ", "", ";"}
	}
	return frame{"fail ", "", ";"}
}

// valueFrame is frameOf of a point or an expr, and of what is written as its Text.
func valueFrame(n api.TreeNode) frame {
	switch n.Kind {
	case api.OnPoint:
		return frame{"on", "", ""}
	case api.SetPoint:
		return frame{"{", ", ", "}"}
	case api.NamePoint:
		return frame{"#" + n.Text, "", ""}
	case api.KeyPoint:
		return frame{"[", "] ", ""}
	case api.PairPoint:
		return pairFrame(n)
	case api.NegNode:
		return frame{"-", "", ""}
	case api.NumNode:
		return frame{strconv.Itoa(n.N), "", ""}
	case api.SizeNode:
		return frame{"size(" + n.Text, "", ")"}
	case api.HasNode:
		return frame{"has(" + n.Text + ", ", "", ")"}
	case api.ValueNode:
		return frame{"value(" + n.Text + ", ", "", ")"}
	}
	if rank(n.Kind) < 4 {
		return frame{"", " " + signs()[n.Kind-api.EqNode] + " ", ""}
	}
	return frame{n.Text, "", ""}
}

// pairFrame is frameOf of a pair point: the comma stands where a point is missing, too.
func pairFrame(n api.TreeNode) frame {
	switch n.N {
	case 1:
		return frame{"pair(", "", ", )"}
	case 2:
		return frame{"pair(, ", "", ")"}
	}
	return frame{"pair(", ", ", ")"}
}
