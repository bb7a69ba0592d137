package order

import (
	"slices"
	"strings"

	"dripstone/api"
)

// CheckShape returns the error of a shape, and of the tables that it can name.
func CheckShape(l []api.Table, s api.Shape) api.Errno {
	if len(l) > api.MaxTables || isDeeper(s, api.MaxLevels) {
		return api.ErrLimit
	}
	if !every(l, isFormed) || !isShape(s) {
		return api.ErrForm
	}
	var names []string
	for _, t := range l {
		names = append(names, t.Name)
	}
	if !areDifferent(names...) {
		return api.ErrTwice
	}
	if !every(l, func(t api.Table) bool { return know(t).isLattice() }) {
		return api.ErrFalse
	}
	if !isOf(s, names...) {
		return api.ErrNone
	}
	return api.OK
}

// isDeeper tells whether a shape has more levels than some.
func isDeeper(s api.Shape, levels int) bool {
	// A list of kids can hold itself: so one must not go down farther than this.
	if levels == 0 {
		return true
	}
	return slices.ContainsFunc(s.Kids, func(kid api.Shape) bool { return isDeeper(kid, levels-1) })
}

// isShape tells whether a shape has its form.
func isShape(s api.Shape) bool {
	if s.Kind < api.ShapeFlag || s.Kind > api.ShapePair || len(s.Kids) != kidsOf(s.Kind) {
		return false
	}
	if s.Kind == api.ShapeNamed && !isTableName(s.Name) || s.Kind != api.ShapeNamed && s.Name != "" {
		return false
	}
	return every(s.Kids, isShape)
}

// kidsOf returns how many kids the shapes of a kind have.
func kidsOf(kind uint8) int {
	switch kind {
	case api.ShapeMap:
		return 1
	case api.ShapePair:
		return 2
	}
	return 0
}

// isOf tells whether a shape names only tables that have some names.
func isOf(s api.Shape, names ...string) bool {
	if s.Kind == api.ShapeNamed {
		return slices.Contains(names, s.Name)
	}
	return every(s.Kids, func(kid api.Shape) bool { return isOf(kid, names...) })
}

// ShapeText returns the text of a shape.
func ShapeText(s api.Shape) (string, api.Errno) {
	if isDeeper(s, api.MaxLevels) {
		return "", api.ErrLimit
	}
	if !isShape(s) {
		return "", api.ErrForm
	}
	return shapeText(s), api.OK
}

// shapeText returns the text of a shape that has its form.
func shapeText(s api.Shape) string {
	if s.Kind == api.ShapeNamed {
		return s.Name
	}
	text := shapeWords()[s.Kind]
	if len(s.Kids) == 0 {
		return text
	}
	var kids []string
	for _, kid := range s.Kids {
		kids = append(kids, shapeText(kid))
	}
	return text + "(" + strings.Join(kids, ", ") + ")"
}

// ParseShape returns the shape with a text.
func ParseShape(s string) (api.Shape, api.Errno) {
	r := newShapeReader(s)
	shape, ok := r.shape()
	if !ok || r.rest != "" || !isShape(shape) {
		return api.Shape{}, api.ErrForm
	}
	if isDeeper(shape, api.MaxLevels) {
		return api.Shape{}, api.ErrLimit
	}
	return shape, api.OK
}

// shapeReader reads shapes: it knows the kinds of those that are no names, by their words.
type shapeReader struct {
	rest  string
	kinds map[string]uint8
}

func newShapeReader(s string) *shapeReader {
	r := &shapeReader{rest: s, kinds: map[string]uint8{}}
	for kind, word := range shapeWords() {
		if word != "" {
			r.kinds[word] = uint8(kind)
		}
	}
	return r
}

// word reads up to a rune that is none of a name.
func (r *shapeReader) word() string {
	end := nameEnd(r.rest)
	word := r.rest[:end]
	r.rest = r.rest[end:]
	return word
}

// skip reads a text, and tells whether it stands there.
func (r *shapeReader) skip(s string) bool {
	rest, ok := strings.CutPrefix(r.rest, s)
	r.rest = rest
	return ok
}

// shape reads a shape, whose names can be none; it is false if there is no shape.
func (r *shapeReader) shape() (api.Shape, bool) {
	word := r.word()
	s := api.Shape{Kind: r.kinds[word]}
	if s.Kind == 0 {
		s.Kind, s.Name = api.ShapeNamed, word
	}
	before := "("
	for range kidsOf(s.Kind) {
		if !r.skip(before) {
			return api.Shape{}, false
		}
		kid, ok := r.shape()
		if !ok {
			return api.Shape{}, false
		}
		s.Kids = append(s.Kids, kid)
		before = ", "
	}
	return s, len(s.Kids) == 0 || r.skip(")")
}
