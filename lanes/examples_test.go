package lanes_test

import (
	"slices"
	"testing"

	"coble/api"
)

// TestExamples is the chapter's table of examples.
func TestExamples(t *testing.T) {
	if l := mustClashes(t, sea(), legs()); !slices.Equal(l, [][3]int{{0, 1, 2}}) {
		t.Errorf("Clashes = %v", l)
	}
	if l := mustClashes(t, sea(), []api.Leg{plane(0, 1, 4, 5), plane(0, 1, 5, 4)}); !slices.Equal(l, [][3]int{{0, 1, 1}}) {
		t.Errorf("Clashes of two that change places = %v", l)
	}
	if l := mustFree(t, sea(), legs(), 0, 5); !slices.Equal(l, []api.Span{span(0, 0), span(4, 4)}) {
		t.Errorf("Free of 5 on the surface = %v", l)
	}
	if l := mustFree(t, sea(), legs(), 1, 5); !slices.Equal(l, []api.Span{span(0, 0), span(2, 4)}) {
		t.Errorf("Free of 5 at the level 1 = %v", l)
	}
	m, n := boat(1, 5, 5, 5), api.Leg{At: 1, Draught: 5, Cells: []int{6, 6, 6, 6}}
	// These two are the only earliest routes.
	if l := tryRoute(t, sea(), nil, trip(0, 4, 6)); !slices.Equal(l, []int{4, 5, 6}) {
		t.Errorf("Route = %v", l)
	}
	if l := tryRoute(t, sea(), []api.Leg{m}, trip(0, 4, 6)); !slices.Equal(l, []int{4, 9, 10, 6}) {
		t.Errorf("Route round M = %v", l)
	}
	if l, ok := tryBlock(t, sea(), []api.Leg{m, n}, trip(0, 4, 6)); !ok || !slices.Equal(l, []int{1}) {
		t.Errorf("Block = %v, %v", l, ok)
	}
	if l, ok := tryBlock(t, sea(), []api.Leg{m}, trip(0, 4, 6)); ok {
		t.Errorf("Block among M = %v", l)
	}
	trips := []api.Trip{trip(0, 4, 6), trip(0, 5, 4), flight(0, 1, 4, 6), trip(0, 4, 7)}
	if l := mustPlan(t, sea(), nil, trips); !slices.Equal(l, []int{2, 2, 2, -1}) {
		t.Errorf("Plan = %v", l)
	}
}
