package check

import "dripstone/api"

// between returns the kinds from one to another one.
func between(first, last uint8) []uint8 {
	var out []uint8
	for kind := first; kind <= last; kind++ {
		out = append(out, kind)
	}
	return out
}

func shapes() []uint8 { return between(api.FlagType, api.PairType) }

func stmts() []uint8 { return between(api.NewStmt, api.FailStmt) }

func points() []uint8 { return between(api.OnPoint, api.PairPoint) }

func exprs() []uint8 { return between(api.EqNode, api.ValueNode) }

func declaring() []uint8 {
	return []uint8{api.ParamNode, api.NewStmt, api.ShareStmt, api.LetStmt, api.BindNode}
}

// looks are how nodes are looked at for an error, by their kinds.
type looks map[uint8]func(v view, node int) api.Errno

// at has nodes of some kinds looked at in one more way, after those that there are.
func (l looks) at(look func(v view, node int) api.Errno, kinds ...uint8) {
	for _, kind := range kinds {
		before, ok := l[kind]
		if !ok {
			l[kind] = look
			continue
		}
		l[kind] = func(v view, node int) api.Errno {
			if e := before(v, node); e != api.OK {
				return e
			}
			return look(v, node)
		}
	}
}

// first returns the error of the first node that has one, with this node.
func (v view) first(l looks) (int, api.Errno) {
	for node, n := range v.Nodes {
		if look, ok := l[n.Kind]; ok {
			if e := look(v, node); e != api.OK {
				return node, e
			}
		}
	}
	return 0, api.OK
}

// errorIf returns an error, if something is so.
func errorIf(is bool, e api.Errno) api.Errno {
	if is {
		return e
	}
	return api.OK
}
