package elem

import "dripstone/api"

// appendElem appends the bytes of an element.
func appendElem(out []byte, e api.Elem) []byte {
	out = append(out, e.Kind)
	switch e.Kind {
	case api.ElemInt:
		out = appendNumber(out, e.N)
	case api.ElemName:
		out = appendCount(out, e.N)
	case api.ElemSet, api.ElemMap:
		out = appendCount(out, len(e.Keys))
		for i, key := range e.Keys {
			out = appendNumber(out, key)
			if e.Kind == api.ElemMap {
				out = appendElem(out, e.Kids[i])
			}
		}
	case api.ElemPair:
		for _, kid := range e.Kids {
			out = appendElem(out, kid)
		}
	}
	return out
}

// appendNumber appends the bytes of a number.
func appendNumber(out []byte, n int) []byte {
	if n < 0 {
		return appendCount(out, -2*n-1)
	}
	return appendCount(out, 2*n)
}

// appendCount appends the bytes of a count.
func appendCount(out []byte, n int) []byte {
	for n >= 128 {
		out = append(out, byte(n%128+128))
		n /= 128
	}
	return append(out, byte(n))
}

// byteReader reads the bytes of an element: what is left of them. Where nothing is left it reads zeros.
type byteReader struct{ rest []byte }

// elem reads an element. If none has its bytes there, this is any one, or nothing that is one.
func (r *byteReader) elem() api.Elem {
	e := api.Elem{Kind: r.next()}
	switch e.Kind {
	case api.ElemInt:
		e.N = r.number()
	case api.ElemName:
		e.N = r.count()
	case api.ElemSet, api.ElemMap:
		for range min(r.count(), api.MaxKeys) {
			e.Keys = append(e.Keys, r.number())
			if e.Kind == api.ElemMap {
				e.Kids = append(e.Kids, r.elem())
			}
		}
	case api.ElemPair:
		first := r.elem()
		e = pairOf(first, r.elem())
	}
	return e
}

// number reads a number.
func (r *byteReader) number() int {
	n := r.count()
	if n%2 == 1 {
		return -(n + 1) / 2
	}
	return n / 2
}

// count reads a count; any number if it is one of more than 63 bits.
func (r *byteReader) count() int {
	n := 0
	for shift := 0; ; shift += 7 {
		b := r.next()
		n |= int(b%128) << shift
		if b < 128 {
			return n
		}
	}
}

// next reads a byte.
func (r *byteReader) next() byte {
	if len(r.rest) == 0 {
		return 0
	}
	b := r.rest[0]
	r.rest = r.rest[1:]
	return b
}
