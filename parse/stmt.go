package parse

import "dripstone/api"

// statements returns how statements are read, by their first tokens.
func statements() map[string]func(*reader) branch {
	return map[string]func(*reader) branch{
		"new":    (*reader).newStmt,
		"share":  (*reader).shareStmt,
		"let":    (*reader).letStmt,
		"put":    (*reader).putStmt,
		"spawn":  (*reader).spawnStmt,
		"when":   (*reader).whenStmt,
		"each":   (*reader).eachStmt,
		"all":    (*reader).allStmt,
		"freeze": (*reader).freezeStmt,
		"if":     (*reader).ifStmt,
		"fail":   (*reader).failStmt,
	}
}

func (r *reader) block() branch {
	from := r.must("{")
	var stmts []branch
	for r.going == fine && !r.sees("}") {
		if x, ok := r.stmt(); ok {
			stmts = append(stmts, x)
		}
	}
	r.must("}")
	return r.node(api.BlockNode, from, "", stmts...)
}

// stmt reads a statement; it is false if this is flawed, and left out.
func (r *reader) stmt() (branch, bool) {
	start := r.next
	var x branch
	if read, ok := r.stmts[r.now().Text]; ok {
		x = read(r)
	} else {
		r.stop()
	}
	if r.going == stuck {
		r.leave(start)
		return branch{}, false
	}
	return x, r.going == fine
}

func (r *reader) newStmt() branch { return r.making(api.NewStmt) }

func (r *reader) shareStmt() branch { return r.making(api.ShareStmt) }

// making reads a statement that makes a variable.
func (r *reader) making(kind uint8) branch {
	from := r.must("new", "share")
	text := r.name()
	r.must(":")
	shape := r.shape()
	r.must(";")
	return r.node(kind, from, text, shape)
}

func (r *reader) letStmt() branch {
	from := r.must("let")
	text := r.name()
	r.must("=")
	value := r.expr()
	r.must(";")
	return r.node(api.LetStmt, from, text, value)
}

func (r *reader) putStmt() branch {
	from := r.must("put")
	text := r.name()
	point := r.point()
	r.must(";")
	return r.node(api.PutStmt, from, text, point)
}

func (r *reader) spawnStmt() branch {
	from := r.must("spawn")
	text := r.name()
	exprs := r.args(r.expr)
	r.must(";")
	return r.node(api.SpawnStmt, from, text, exprs...)
}

func (r *reader) whenStmt() branch {
	from := r.must("when")
	text := r.name()
	cases := r.list("or", r.caseNode)
	return r.node(api.WhenStmt, from, text, cases...)
}

func (r *reader) caseNode() branch {
	from := r.next
	point := r.point()
	block := r.block()
	return r.node(api.CaseNode, from, "", point, block)
}

func (r *reader) eachStmt() branch {
	from := r.must("each")
	text := r.name()
	r.must("as")
	bind := r.named(api.BindNode)
	block := r.block()
	return r.node(api.EachStmt, from, text, bind, block)
}

func (r *reader) allStmt() branch {
	from := r.must("all")
	block := r.block()
	return r.node(api.AllStmt, from, "", block)
}

func (r *reader) freezeStmt() branch {
	from := r.must("freeze")
	text := r.name()
	r.must("as")
	bind := r.named(api.BindNode)
	r.must(";")
	return r.node(api.FreezeStmt, from, text, bind)
}

func (r *reader) ifStmt() branch {
	from := r.must("if")
	kids := []branch{r.expr()}
	kids = append(kids, r.block())
	if r.skip("else") {
		kids = append(kids, r.block())
	}
	return r.node(api.IfStmt, from, "", kids...)
}

func (r *reader) failStmt() branch {
	from := r.must("fail")
	value := r.expr()
	r.must(";")
	return r.node(api.FailStmt, from, "", value)
}
