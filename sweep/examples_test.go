package sweep_test

import (
	"slices"
	"testing"

	"coble/api"
	"coble/sweep"
)

// TestExamples holds the chapter's table of examples.
func TestExamples(t *testing.T) {
	h, l, p := first(), targets(), plan()
	one := first()
	one.Units = one.Units[:1]
	if s := mustFound(t, h, l, p); s != share(141, 160) {
		t.Errorf("Found of H, L and P = %v", s)
	}
	if s := mustFound(t, one, l, [][]int{{4, 4, 4}}); s != share(1, 2) {
		t.Errorf("Found of U alone = %v", s)
	}
	if l := mustLeft(t, h, l, p); !slices.Equal(l, []api.Share{share(15, 19), share(4, 19)}) {
		t.Errorf("Left of H, L and P = %v", l)
	}
	best, s := mustBest(t, h, l)
	if !slices.Equal(best[0], []int{4, 9, 10}) || !slices.Equal(best[1], []int{10, 5, 6}) || s != share(763, 800) {
		t.Errorf("Best of H and L = %v, %v", best, s)
	}
	if p, e := sweep.Better(h, l, p, 7); e != api.OK || compare(mustFound(t, h, l, p), share(141*5+56, 800)) < 0 {
		t.Errorf("Better by 7 = %v, %d", p, e)
	}
	if p, e := sweep.Better(h, l, p, 8); e != api.ErrNone || len(p) > 0 {
		t.Errorf("Better by 8 = %v, %d", p, e)
	}
	for _, x := range [][4]int{{60, 9, 2, 1}, {70, 2, 2, 2}, {90, 9, 3, 0}} {
		if n, reason := mustEnds(t, h, l, p, x[0], x[1]); n != x[2] || reason != x[3] {
			t.Errorf("Ends by %v = %d, %d", x[:2], n, reason)
		}
	}
	if s := mustSure(t, puzzle{h, l, p, drifter(), nil}); s != share(1, 2) {
		t.Errorf("Sure of H, X and P = %v", s)
	}
	if s := mustSure(t, puzzle{h, l, p, drifter(), sightings()}); s != share(9, 10) {
		t.Errorf("Sure with S = %v", s)
	}
	for _, p := range [][][]int{{{4, 5, 6}, {10, 5, 6}}, {{4, 5, 7}, {10, 10, 10}}} {
		if e := sweep.CheckPlan(h, p); e != api.ErrPlan {
			t.Errorf("CheckPlan of %v: %d", p, e)
		}
	}
}
