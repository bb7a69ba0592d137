package order

import (
	"strings"

	"dripstone/api"
)

// Text returns the text of a table.
func Text(t api.Table) (string, api.Errno) {
	if e := Check(t); e != api.OK {
		return "", e
	}
	var elems []string
	for a := range len(t.Elems) {
		elems = append(elems, elemText(t, a))
	}
	return "lattice " + t.Name + " { " + strings.Join(elems, "; ") + " }", api.OK
}

// elemText returns the text of an element.
func elemText(t api.Table, a int) string {
	text := t.Elems[a]
	if t.Wrong[a] {
		text += "!"
	}
	before := ": "
	for _, up := range t.Above[a] {
		text += before + t.Elems[up]
		before = ", "
	}
	return text
}

// Parse returns the table with a text.
func Parse(s string) (api.Table, api.Errno) {
	t, ok := readTable(s)
	if !ok {
		return api.Table{}, api.ErrForm
	}
	// Reading asks neither for the form of the table nor for all of that of its text.
	if text, e := Text(t); e != api.OK || text != s {
		return api.Table{}, api.ErrForm
	}
	return t, api.OK
}

// readTable returns the table of a text; if this is the text of none, any one, or false.
func readTable(s string) (api.Table, bool) {
	head, body, _ := strings.Cut(strings.TrimSuffix(s, " }"), " { ")
	t := api.Table{Name: strings.TrimPrefix(head, "lattice ")}
	var aboves []string
	numbers := map[string]int{}
	for a, text := range strings.SplitN(body, "; ", api.MaxElems+1) {
		elem, above, _ := strings.Cut(text, ": ")
		name, wrong := strings.CutSuffix(elem, "!")
		t.Elems = append(t.Elems, name)
		t.Wrong = append(t.Wrong, wrong)
		aboves = append(aboves, above)
		numbers[name] = a
	}
	for _, above := range aboves {
		up, ok := readAbove(above, numbers)
		if !ok {
			return api.Table{}, false
		}
		t.Above = append(t.Above, up)
	}
	return t, true
}

// readAbove returns the numbers of elements whose names stand in a text; it is false if there are no such elements.
func readAbove(text string, numbers map[string]int) ([]int, bool) {
	if text == "" {
		return nil, true
	}
	var up []int
	for _, name := range strings.SplitN(text, ", ", api.MaxElems+1) {
		a, ok := numbers[name]
		if !ok {
			return nil, false
		}
		up = append(up, a)
	}
	return up, true
}
