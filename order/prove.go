package order

import "dripstone/api"

// isLattice tells whether a table has no break.
func (t known) isLattice() bool { return t.breakOf().Kind == 0 }

// breakOf returns the break of a table; one of no kind if it has none.
func (t known) breakOf() api.Break {
	for a := range t.Elems {
		if t.comesBack(a) {
			return api.Break{Kind: api.BreakCycle, A: a}
		}
	}
	for a := range t.Elems {
		if !t.reach[0].has(a) {
			return api.Break{Kind: api.BreakBase, A: a}
		}
	}
	for a, b := range t.pairs() {
		if _, kind := t.join(a, b); kind != 0 {
			return api.Break{Kind: kind, A: a, B: b}
		}
	}
	return t.wrongBreak()
}

// comesBack tells whether one comes from an element to itself by one step or more.
func (t known) comesBack(a int) bool {
	return !every(t.Above[a], func(up int) bool { return !t.reach[up].has(a) })
}

// wrongBreak returns the first break by wrong elements; one of no kind if there is none.
func (t known) wrongBreak() api.Break {
	if t.Wrong[0] {
		return api.Break{Kind: api.BreakWrong}
	}
	for a, wrong := range t.Wrong {
		if !wrong {
			continue
		}
		for _, b := range t.reach[a].list() {
			if !t.Wrong[b] {
				return api.Break{Kind: api.BreakWrong, A: a, B: b}
			}
		}
	}
	return api.Break{}
}
