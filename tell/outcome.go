package tell

import (
	"cmp"
	"slices"
	"strconv"
	"strings"

	"dripstone/api"
	"dripstone/elem"
	"dripstone/order"
)

// outcome returns what there is.
func (x *execution) outcome() api.Outcome {
	o := api.Outcome{Vars: x.states(), Fails: slices.Sorted(slices.Values(x.fails)), Tasks: len(x.tasks), Steps: x.steps}
	slices.SortFunc(o.Vars, compareVars)
	for _, t := range x.tasks {
		if t.at != 0 && x.stands(t) {
			o.Waits = append(o.Waits, api.Wait{Path: t.Path, Site: x.Sites[t.at]})
		}
	}
	slices.SortFunc(o.Waits, func(a, b api.Wait) int { return comparePaths(a.Path, b.Path) })
	return o
}

// states returns the variables, by their numbers.
func (x *execution) states() []api.VarState {
	var out []api.VarState
	for _, v := range x.vars {
		out = append(out, v.VarState)
	}
	return out
}

// history returns what happened.
func (x *execution) history() api.History {
	h := api.History{Vars: x.states(), Events: x.events}
	for _, t := range x.tasks {
		h.Actors = append(h.Actors, t.Actor)
	}
	return h
}

// times returns how many steps there are at each node.
func (x *execution) times() []int {
	out := make([]int, len(x.Nodes))
	for _, event := range x.events {
		isStep := event.Kind != api.EventKey && event.Kind != api.EventEnd
		if event.Kind == api.EventFail {
			isStep = x.is(event.Node, api.FailStmt)
		}
		if isStep {
			out[event.Node]++
		}
	}
	return out
}

// paths returns the paths of all tasks, ascending.
func (x *execution) paths() [][]api.Hop {
	var out [][]api.Hop
	for _, t := range x.tasks {
		out = append(out, t.Path)
	}
	slices.SortFunc(out, comparePaths)
	return out
}

// compareHops returns a number below 0 if a hop is smaller than another one, above 0 if it is greater.
func compareHops(a, b api.Hop) int {
	return cmp.Or(cmp.Compare(a.Site, b.Site), cmp.Compare(a.Piece, b.Piece))
}

// comparePaths returns the like of paths.
func comparePaths(a, b []api.Hop) int { return slices.CompareFunc(a, b, compareHops) }

// compareVars returns the like of variables, by who made them, and where.
func compareVars(a, b api.VarState) int {
	return cmp.Or(comparePaths(a.Path, b.Path), cmp.Compare(a.Site, b.Site))
}

// text returns an outcome of the program as lines.
func (p *program) text(o api.Outcome) string {
	var b strings.Builder
	line := func(words ...string) { b.WriteString(strings.Join(words, "") + "\n") }
	line("tasks ", strconv.Itoa(o.Tasks), ", steps ", strconv.Itoa(o.Steps))
	for _, v := range o.Vars {
		shape, _ := order.ShapeText(v.Shape)
		// Of a value whose text is too long there is no text.
		value, _ := elem.Text(api.Lattice{Tables: p.tables, Shape: v.Shape}, v.E)
		line("var ", placeText(v.Path, v.Site), " ", shape, " = ", value)
	}
	for _, n := range o.Fails {
		line("fail ", strconv.Itoa(n))
	}
	for _, w := range o.Waits {
		line("wait ", placeText(w.Path, w.Site))
	}
	return b.String()
}

// placeText returns the text of a task and a site.
func placeText(path []api.Hop, site int) string {
	words := []string{"main"}
	for _, hop := range path {
		words = append(words, "/", strconv.Itoa(hop.Site), ":", strconv.Itoa(hop.Piece))
	}
	words = append(words, " ", strconv.Itoa(site))
	return strings.Join(words, "")
}
