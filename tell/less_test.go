package tell_test

import (
	"slices"
	"testing"

	"dripstone/api"
	"dripstone/check"
	"dripstone/tell"
)

// P6.13: less is put in.
func TestLess(t *testing.T) {
	many, fewer := 0, 0
	for _, s := range right(samples(600, true)) {
		h, _ := tell.Log(s.Tree, s.in)
		o, _ := tell.Run(s.Tree, s.in)
		l, _ := check.Tables(s.Tree)
		if has(s.Tree, api.AllStmt, api.FreezeStmt) {
			t.Fatalf("the author is not plain")
		}
		for node, n := range s.Nodes {
			fails := func(e api.Event) bool { return e.Kind == api.EventFail && within(s.Tree, e.Node, node) }
			if n.Kind != api.PutStmt || slices.ContainsFunc(h.Events, fails) {
				continue
			}
			x, ok := without(s.Tree, node)
			if !ok {
				t.Fatalf("no tree without %s", shown(s.Tree, node))
			}
			p, e := tell.Run(x, s.in)
			is, f := tell.Below(l, p, o)
			if e != api.OK || f != api.OK || !is {
				t.Fatalf("without %s: %v, %v, %+v, not below %+v of %s", shown(s.Tree, node), e, f, p, o, shown(s.Tree, 0))
			}
			many++
			if !tell.Agree(p, o) {
				fewer++
			}
		}
	}
	if many < 500 || fewer < 300 {
		t.Errorf("only %d without a put, and %d with another outcome", many, fewer)
	}
}
