package fixes_test

import (
	"slices"
	"testing"

	"coble/api"
	"coble/fixes"
)

// TestExamples holds the chapter's table of examples.
func TestExamples(t *testing.T) {
	for tick, want := range [][]int{{1, 4, 5, 8, 9}, {5, 6, 9, 10}, {8, 9, 10, 11}} {
		if l := mustWhere(t, first(), tick); !slices.Equal(l, want) {
			t.Errorf("Where of D in %d = %v", tick, l)
		}
	}
	if l := mustCourse(t, first()); !slices.Equal(l, []int{1, 5, 9, 4, 0}) {
		t.Errorf("Course of D = %v", l)
	}
	if n, l := mustDoubt(t, second()); n != 2 || !slices.Equal(l, []int{6, 11, 10, 5, 1}) {
		t.Errorf("Doubt of E = %d, %v", n, l)
	}
	for i, want := range [][]int{nil, {11}, {5, 6, 9, 10, 11}} {
		if l := mustWithin(t, second(), 1, i+1); !slices.Equal(l, want) {
			t.Errorf("Within of E with %d = %v", i+1, l)
		}
	}
	if l, e := fixes.Conflict(second()); e != api.OK || !slices.Equal(l, []int{0, 3}) {
		t.Errorf("Conflict of E = %v, %d", l, e)
	}
	if l, e := fixes.Struck(first(), 1, 11); e != api.OK || !slices.Equal(l, []int{0}) {
		t.Errorf("Struck of 11 = %v, %d", l, e)
	}
	if l, e := fixes.Struck(first(), 1, 5); e != api.ErrNone || len(l) > 0 {
		t.Errorf("Struck of 5 = %v, %d", l, e)
	}
	if l, e := fixes.Struck(first(), 0, 2); e != api.OK || len(l) > 0 {
		t.Errorf("Struck of 2 = %v, %d", l, e)
	}
	if l, e := fixes.Sources(second()); e != api.OK || !slices.Equal(l, []int{0, 0, 0, 1}) {
		t.Errorf("Sources of E = %v, %d", l, e)
	}
	if l, e := fixes.Sources(first()); e != api.OK || !slices.Equal(l, []int{0, 0, 0}) {
		t.Errorf("Sources of D = %v, %d", l, e)
	}
}
