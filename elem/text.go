package elem

import (
	"slices"
	"strconv"
	"strings"

	"dripstone/api"
)

// text returns the text of an element.
func (t right) text(e api.Elem) string {
	key := func(i int) string { return strconv.Itoa(e.Keys[i]) }
	kid := func(i int) string { return t.kid(i).text(e.Kids[i]) }
	switch e.Kind {
	case api.ElemOn:
		return "on"
	case api.ElemInt:
		return strconv.Itoa(e.N)
	case api.ElemClash:
		return "clash"
	case api.ElemName:
		return "#" + t.table().Elems[e.N]
	case api.ElemSet:
		return "{" + listed(len(e.Keys), key) + "}"
	case api.ElemMap:
		return "[" + listed(len(e.Keys), func(i int) string { return key(i) + ": " + kid(i) }) + "]"
	case api.ElemPair:
		return "(" + listed(len(e.Kids), kid) + ")"
	}
	return "none"
}

// listed returns so many texts, with a comma and a blank between two.
func listed(n int, text func(int) string) string {
	var l []string
	for i := range n {
		l = append(l, text(i))
	}
	return strings.Join(l, ", ")
}

// textReader reads the text of an element: what is left of it.
type textReader struct {
	right
	rest string
}

// elem reads an element. If none has its text there, this is any one, or nothing that is one.
func (r *textReader) elem() api.Elem {
	switch kind := r.Shape.Kind; {
	case kind == api.ShapeSet && r.skip("{"):
		return r.keyed(api.ElemSet, "}")
	case kind == api.ShapeMap && r.skip("["):
		return r.keyed(api.ElemMap, "]")
	case kind == api.ShapePair && r.skip("("):
		first := r.kid(0)
		r.skip(", ")
		second := r.kid(1)
		r.skip(")")
		return pairOf(first, second)
	}
	return r.plain()
}

// keyed reads a set or a map from its first key on, and the sign at its end.
func (r *textReader) keyed(kind uint8, end string) api.Elem {
	e := api.Elem{Kind: kind}
	for range api.MaxKeys {
		e.Keys = append(e.Keys, number(r.word()))
		if kind == api.ElemMap {
			r.skip(": ")
			e.Kids = append(e.Kids, r.kid(0))
		}
		if !r.skip(", ") {
			break
		}
	}
	r.skip(end)
	return e
}

// kid reads an element of the lattice of the kid i.
func (r *textReader) kid(i int) api.Elem {
	inner := textReader{r.right.kid(i), r.rest}
	e := inner.elem()
	r.rest = inner.rest
	return e
}

// plain reads an element whose text is a word.
func (r *textReader) plain() api.Elem {
	word := r.word()
	switch word {
	case "none":
		return api.Elem{}
	case "on":
		return api.Elem{Kind: api.ElemOn}
	case "clash":
		return api.Elem{Kind: api.ElemClash}
	}
	if name, is := strings.CutPrefix(word, "#"); is && r.Shape.Kind == api.ShapeNamed {
		return api.Elem{Kind: api.ElemName, N: slices.Index(r.table().Elems, name)}
	}
	return api.Elem{Kind: api.ElemInt, N: number(word)}
}

// word reads up to what can stand behind an integer, a name or a keyword.
func (r *textReader) word() string {
	end := strings.IndexAny(r.rest, ",:}])")
	if end < 0 {
		end = len(r.rest)
	}
	word := r.rest[:end]
	r.rest = r.rest[end:]
	return word
}

// skip reads a text, and tells whether it stands there.
func (r *textReader) skip(s string) bool {
	rest, is := strings.CutPrefix(r.rest, s)
	r.rest = rest
	return is
}

// number returns the integer with a text; any one if there is none.
func number(s string) int {
	n, _ := strconv.Atoi(s)
	return n
}
