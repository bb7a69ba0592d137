package tell_test

import (
	"fmt"
	"math/rand"
	"testing"

	"dripstone/api"
	"dripstone/tell"
)

// same tells whether two values have the same text: lists that are nil and empty ones have.
func same(a, b any) bool { return fmt.Sprintf("%+v", a) == fmt.Sprintf("%+v", b) }

// somePicks returns picks that lead through an execution in some way.
func somePicks(r *rand.Rand) []int {
	picks := make([]int, r.Intn(400))
	way := r.Intn(4)
	for i := range picks {
		switch way {
		case 0: // the last one, where not too many can go on
			picks[i] = 27720*13*17 - 1
		case 1:
			picks[i] = i
		default:
			picks[i] = r.Intn(1000)
		}
	}
	return picks
}

// P6.1, P6.2, P6.3: as the second writing says, in the order of the history and in others.
func TestAgainstModel(t *testing.T) {
	r := rand.New(rand.NewSource(6))
	for _, s := range samples(250, false) {
		w, e := lived(s.Tree, s.in, nil, -1)
		o, oe := tell.Run(s.Tree, s.in)
		h, he := tell.Log(s.Tree, s.in)
		if oe != e || he != e {
			t.Fatalf("Run and Log: %v, %v, not %v, of %s", oe, he, e, shown(s.Tree, 0))
		}
		if e == api.OK && (!same(o, w.outcome()) || !same(h, w.history())) {
			t.Fatalf("Run and Log:\n%+v\n%+v, not\n%+v\n%+v, of %s", o, h, w.outcome(), w.history(), shown(s.Tree, 0))
		}
		for range 3 {
			picks := somePicks(r)
			w, e := lived(s.Tree, s.in, picks, -1)
			o, oe := tell.Order(s.Tree, s.in, picks)
			if oe != e || e == api.OK && !same(o, w.outcome()) {
				t.Fatalf("Order by %v: %v, %+v, not %v, %+v of %s", picks, oe, o, e, w.outcome(), shown(s.Tree, 0))
			}
		}
	}
}
