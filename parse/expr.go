package parse

import (
	"slices"
	"strconv"

	"dripstone/api"
)

// signs returns the signs of exprs with two operands, in the order of their kinds from EqNode on.
func signs() []string { return []string{"==", "!=", "<", "<=", ">", ">=", "+", "-", "*", "/"} }

func (r *reader) point() branch {
	from := r.next
	switch {
	case r.skip("on"):
		return r.node(api.OnPoint, from, "")
	case r.skip("#"):
		text := r.name()
		return r.node(api.NamePoint, from, text)
	case r.skip("{"):
		exprs := r.list(",", r.expr)
		r.must("}")
		return r.node(api.SetPoint, from, "", exprs...)
	case r.skip("["):
		key := r.expr()
		r.must("]")
		point := r.point()
		return r.node(api.KeyPoint, from, "", key, point)
	case r.sees("pair"):
		return r.pairPoint()
	}
	value := r.expr()
	return r.node(api.IntPoint, from, "", value)
}

// pairPoint reads a pair point: N has a bit for each of its points that there is.
func (r *reader) pairPoint() branch {
	from := r.must("pair")
	var points []branch
	n := 0
	r.must("(")
	if !r.sees(",") {
		points = append(points, r.point())
		n = 1
	}
	r.must(",")
	if n == 0 || !r.sees(")") {
		points = append(points, r.point())
		n += 2
	}
	r.must(")")
	x := r.node(api.PairPoint, from, "", points...)
	x.N = n
	return x
}

func (r *reader) expr() branch {
	from := r.next
	x := r.sum()
	if r.sees("==", "!=", "<", "<=", ">", ">=") {
		x = r.both(from, x, r.sum)
	}
	return x
}

func (r *reader) sum() branch { return r.row(r.term, "+", "-") }

func (r *reader) term() branch { return r.row(r.unary, "*", "/") }

// row reads operands with some signs between them, from left to right.
func (r *reader) row(read func() branch, between ...string) branch {
	from := r.next
	x := read()
	for r.sees(between...) {
		x = r.both(from, x, read)
	}
	return x
}

// both reads a sign and what is to the right of it, and returns the expr with both operands.
func (r *reader) both(from int, left branch, read func() branch) branch {
	sign := r.now()
	r.next++
	right := read()
	x := r.node(api.EqNode+uint8(slices.Index(signs(), sign.Text)), from, "", left, right)
	x.At = sign.At
	return x
}

func (r *reader) unary() branch {
	from := r.next
	if r.skip("-") {
		x := r.unary()
		return r.node(api.NegNode, from, "", x)
	}
	return r.atom()
}

func (r *reader) atom() branch {
	switch {
	case r.seesA(api.NumberToken):
		return r.number()
	case r.sees("size"):
		return r.size()
	case r.sees("has"):
		return r.asking(api.HasNode)
	case r.sees("value"):
		return r.asking(api.ValueNode)
	case r.skip("("):
		x := r.expr()
		r.must(")")
		return x
	}
	return r.named(api.NameNode)
}

func (r *reader) number() branch {
	from := r.next
	text := r.mustA(api.NumberToken)
	x := r.node(api.NumNode, from, "")
	// A token that is a number fits.
	x.N, _ = strconv.Atoi(text)
	return x
}

func (r *reader) size() branch {
	from := r.must("size")
	r.must("(")
	text := r.name()
	r.must(")")
	return r.node(api.SizeNode, from, text)
}

// asking reads an expr that asks a frozen variable for an integer.
func (r *reader) asking(kind uint8) branch {
	from := r.must("has", "value")
	r.must("(")
	text := r.name()
	r.must(",")
	key := r.expr()
	r.must(")")
	return r.node(kind, from, text, key)
}
