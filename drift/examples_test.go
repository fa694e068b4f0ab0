package drift_test

import (
	"slices"
	"testing"

	"coble/api"
	"coble/drift"
)

// TestExamples holds the chapter's table of examples.
func TestExamples(t *testing.T) {
	d, x := sea(), drifter()
	for _, s := range []struct {
		cell, tick, leeway int
		want               []int
	}{{4, 0, 4, []int{-1, 4, 5, 9, 10}}, {4, 0, 2, []int{4, 5, 9, 10}}, {6, 1, 0, []int{6, 7}}, {7, 0, 0, []int{7}}} {
		if l := mustStep(t, d, s.cell, s.tick, s.leeway); !slices.Equal(l, s.want) {
			t.Errorf("Step(%d, %d, %d) = %v", s.cell, s.tick, s.leeway, l)
		}
	}
	if l := mustPlaces(t, d, x, nil); !slices.Equal(l[1], []int{-1, 4, 5, 9, 10}) {
		t.Errorf("Places = %v", l)
	}
	l := mustPlaces(t, d, x, sightings())
	if !slices.Equal(l[0], []int{4}) || !slices.Equal(l[1], []int{9, 10}) || !slices.Equal(l[2], []int{10}) {
		t.Errorf("Places with S = %v", l)
	}
	if l, e := drift.Struck(d, x, sightings(), 4, 1); e != api.OK || !slices.Equal(l, []int{0}) {
		t.Errorf("Struck of 4 = %v, %d", l, e)
	}
	if l, e := drift.Struck(d, x, sightings(), 0, 1); e != api.OK || len(l) > 0 {
		t.Errorf("Struck of 0 = %v, %d", l, e)
	}
	if l, e := drift.Conflict(d, x, never()); e != api.OK || !slices.Equal(l, []int{0, 2}) {
		t.Errorf("Conflict = %v, %d", l, e)
	}
	if sure, may := mustAlive(t, puzzle{d, x, nil, body()}); sure != 2 || may != 4 {
		t.Errorf("Alive = %d, %d", sure, may)
	}
}
