package crews_test

import (
	"slices"
	"testing"

	"coble/api"
	"coble/crews"
)

// TestExamples holds the chapter's first table of examples.
func TestExamples(t *testing.T) {
	for _, x := range [][3]int{{0, 0, 6}, {1, 0, 2}, {1, 3, 2}, {1, 6, 6}} {
		if n := mustSpare(t, station(), x[0], x[1]); n != x[2] {
			t.Errorf("Spare of %d from %d = %d", x[0], x[1], n)
		}
	}
	if tick, who, e := crews.Muster(station(), 0, []int{1, 2}, 3); tick != 8 || !slices.Equal(who, []int{1, 0}) || e != api.OK {
		t.Errorf("Muster of 1 2 = %d, %v, %d", tick, who, e)
	}
	if tick, who, e := crews.Muster(station(), 0, []int{1}, 3); tick != 4 || !slices.Equal(who, []int{0}) || e != api.OK {
		t.Errorf("Muster of 1 = %d, %v, %d", tick, who, e)
	}
	if tick, who, e := crews.Muster(station(), 0, []int{1}, 7); tick != 0 || len(who) > 0 || e != api.ErrNone {
		t.Errorf("Muster for 7 = %d, %v, %d", tick, who, e)
	}
	if l, e := crews.Lacking(station(), 0, []int{2, 2}, 3); !slices.Equal(l, []int{0, 1}) || e != api.OK {
		t.Errorf("Lacking of 2 2 = %v, %d", l, e)
	}
	if l, e := crews.Lacking(station(), 0, []int{1, 2}, 3); len(l) > 0 || e != api.ErrNone {
		t.Errorf("Lacking of 1 2 = %v, %d", l, e)
	}
	if tick, l, e := crews.Whoever(station(), 0, []int{1, 2}, 3, 0); tick != 5 || len(l) > 0 || e != api.OK {
		t.Errorf("Whoever without anyone silent = %d, %v, %d", tick, l, e)
	}
	if tick, l, e := crews.Whoever(station(), 0, []int{1, 2}, 3, 1); tick != 8 || !slices.Equal(l, []int{2}) || e != api.OK {
		t.Errorf("Whoever with one silent = %d, %v, %d", tick, l, e)
	}
	if l, e := crews.Watch(station(), []int{1}, []api.Span{span(0, 3), span(6, 9)}); !same(l, [][]int{{0}, {1}}) || e != api.OK {
		t.Errorf("Watch = %v, %d", l, e)
	}
}

// TestExamplesOfPages holds the chapter's second table of examples.
func TestExamplesOfPages(t *testing.T) {
	for tick, want := range map[int][]int{4: {1, 2, 0}, 5: {0, 2, 0}} {
		if l := mustAnswers(t, 3, pages(), tick); !slices.Equal(l, want) {
			t.Errorf("Answers at %d = %v", tick, l)
		}
	}
	for every, want := range map[int][]int{5: {2}, 4: {0, 2}} {
		if l := mustAgain(t, 3, pages(), 9, every); !slices.Equal(l, want) {
			t.Errorf("Again every %d = %v", every, l)
		}
	}
	for tick, want := range map[int][]int{3: {1, 4}, 10: {0, 4}} {
		if l := mustCurrent(t, 2, drills(), eight(10), tick); !slices.Equal(l, want) {
			t.Errorf("Current at %d = %v", tick, l)
		}
	}
}
