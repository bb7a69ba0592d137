package parse

import (
	"iter"
	"slices"

	"dripstone/api"
)

// items yields the items of a text, and goes on behind those that are flawed.
func (r *reader) items() iter.Seq[branch] {
	return func(yield func(branch) bool) {
		for r.next < len(r.tokens) {
			x := r.item()
			if r.going == fine {
				if !yield(x) {
					return
				}
				continue
			}
			// This cannot be the item's own first token: with an item token an item does begin.
			r.next = r.nextItem(r.next)
			r.going = fine
		}
	}
}

// item reads an item.
func (r *reader) item() branch {
	switch {
	case r.sees("lattice"):
		return r.lattice()
	case r.sees("use"):
		return r.use()
	}
	return r.task()
}

func (r *reader) lattice() branch {
	from := r.must("lattice")
	text := r.name()
	r.must("{")
	elems := r.list(";", r.elem)
	r.must("}")
	return r.node(api.LatticeItem, from, text, elems...)
}

func (r *reader) elem() branch {
	from := r.next
	text := r.name()
	n := 0
	if r.skip("!") {
		n = 1
	}
	var aboves []branch
	if r.skip(":") {
		aboves = r.list(",", func() branch { return r.named(api.AboveNode) })
	}
	x := r.node(api.ElemNode, from, text, aboves...)
	x.N = n
	return x
}

func (r *reader) use() branch {
	from := r.must("use")
	text := r.name()
	types := r.args(r.anyType)
	r.must(";")
	return r.node(api.UseItem, from, text, types...)
}

func (r *reader) task() branch {
	from := r.must("task")
	text := r.name()
	kids := r.args(r.param)
	kids = append(kids, r.block())
	return r.node(api.TaskItem, from, text, kids...)
}

func (r *reader) param() branch {
	from := r.next
	text := r.name()
	r.must(":")
	kind := r.anyType()
	return r.node(api.ParamNode, from, text, kind)
}

// anyType reads the type of a parameter.
func (r *reader) anyType() branch {
	from := r.next
	if r.skip("int") {
		return r.node(api.IntType, from, "")
	}
	return r.shape()
}

// plainShapes returns the shapes that are one keyword, in the order of their kinds from FlagType on.
func plainShapes() []string { return []string{"flag", "max", "set", "once"} }

func (r *reader) shape() branch {
	from := r.next
	switch {
	case r.skip("map"):
		r.must("(")
		of := r.shape()
		r.must(")")
		return r.node(api.MapType, from, "", of)
	case r.skip("pair"):
		r.must("(")
		first := r.shape()
		r.must(",")
		second := r.shape()
		r.must(")")
		return r.node(api.PairType, from, "", first, second)
	case r.sees(plainShapes()...):
		kind := api.FlagType + uint8(slices.Index(plainShapes(), r.now().Text))
		r.next++
		return r.node(kind, from, "")
	}
	return r.named(api.NamedType)
}
