package lanes_test

import (
	"slices"
	"testing"

	"coble/api"
)

// TestFree is P6.3: the ticks in which no unit at the level occupies the cell.
func TestFree(t *testing.T) {
	c := calm(4, 3, 20, 5)
	always := []api.Span{span(0, 4)}
	for _, x := range []struct {
		name        string
		l           []api.Leg
		level, cell int
		want        []api.Span
	}{
		{"without legs", nil, 0, 0, always},
		{"without legs, the last one", nil, 3, 11, always},
		{"at another level", []api.Leg{plane(0, 1, 5, 5)}, 0, 5, always},
		{"over a boat", []api.Leg{boat(0, 5, 5, 5)}, 1, 5, always},
		{"in another cell", []api.Leg{plane(0, 2, 5, 6, 5)}, 2, 4, always},
		{"at the highest level", []api.Leg{plane(1, 3, 5, 6, 5)}, 3, 6, []api.Span{span(0, 1), span(3, 4)}},
		{"before", []api.Leg{boat(2, 5, 5, 5)}, 0, 5, []api.Span{span(0, 1)}},
		{"after", []api.Leg{boat(0, 5, 5, 5)}, 0, 5, []api.Span{span(3, 4)}},
		{"in between", []api.Leg{boat(0, 5, 6, 6, 6, 5)}, 0, 5, []api.Span{span(1, 3)}},
		{"in single ticks", []api.Leg{boat(0, 4, 5, 4, 5, 4)}, 0, 5, []api.Span{span(0, 0), span(2, 2), span(4, 4)}},
		{"never", []api.Leg{boat(0, 5, 5, 5, 5, 5)}, 0, 5, nil},
		{"never, with two", []api.Leg{boat(3, 5, 5), boat(0, 5, 5, 5)}, 0, 5, nil},
		{"never, with two that overlap", []api.Leg{boat(1, 5, 5, 5, 5), boat(0, 5, 5, 5)}, 0, 5, nil},
		{"with a tow", []api.Leg{tug(0, 4, 5, 6, 10)}, 0, 5, []api.Span{span(0, 0), span(3, 4)}},
		{"with a tow that it leaves at once", []api.Leg{tug(0, 4, 5, 6, 10)}, 0, 4, []api.Span{span(2, 4)}},
		{"with a tow, nowhere before it begins", []api.Leg{tug(2, 4, 5, 6)}, 0, 4, []api.Span{span(0, 1), span(4, 4)}},
		{"with a tow, nowhere after it ends", []api.Leg{tug(0, 4, 5, 6, 10)}, 0, 10, []api.Span{span(0, 2), span(4, 4)}},
		{"with a tow, one cell before the last one", []api.Leg{tug(0, 4, 5, 6, 10)}, 0, 6, []api.Span{span(0, 1), span(4, 4)}},
		{"with a tow of an aircraft", []api.Leg{towing(plane(0, 2, 4, 5, 6))}, 2, 5, []api.Span{span(0, 0), span(3, 4)}},
		{"with and without a tow", []api.Leg{boat(0, 5, 6), tug(1, 4, 5, 6)}, 0, 5, []api.Span{span(1, 1), span(4, 4)}},
		{"at two levels", []api.Leg{plane(0, 1, 5, 6), plane(2, 2, 5, 5)}, 1, 5, []api.Span{span(1, 4)}},
	} {
		if l := mustFree(t, c, x.l, x.level, x.cell); !slices.Equal(l, x.want) {
			t.Errorf("%s: Free = %v, not %v", x.name, l, x.want)
		}
	}
}

// TestFreeDry is P6.3: it does not matter whether anything floats in the cell.
func TestFreeDry(t *testing.T) {
	if l := mustFree(t, sea(), legs(), 0, 3); !slices.Equal(l, []api.Span{span(0, 4)}) {
		t.Errorf("Free of a dry cell = %v", l)
	}
	if l := mustFree(t, calm(1, 1, -9, 1), nil, 0, 0); !slices.Equal(l, []api.Span{span(0, 0)}) {
		t.Errorf("Free of the only cell = %v", l)
	}
}

// TestFreeOneByOne is P6.3 and P6.10 on many seas: a tick is in a span just if no unit occupies the cell, and between two
// spans some unit does.
func TestFreeOneByOne(t *testing.T) {
	free, taken := 0, 0
	for _, p := range puzzles(5, 3000, 3, 2, 7, 7) {
		l := mustFree(t, p.c, p.l, p.level, p.cell)
		for tick := range p.c.Tide {
			within := slices.ContainsFunc(l, func(s api.Span) bool { return s.Low <= tick && tick <= s.High })
			if within != p.isFree(tick) {
				t.Fatalf("Free(%v, %d, %d) = %v", p.l, p.level, p.cell, l)
			}
			if within {
				free++
			} else {
				taken++
			}
		}
		for i, s := range l {
			if s.Low > s.High || i > 0 && l[i-1].High+1 >= s.Low || s.Low < 0 || s.High >= len(p.c.Tide) {
				t.Fatalf("Free(%v, %d, %d) = %v", p.l, p.level, p.cell, l)
			}
		}
	}
	if free < 1000 || taken < 1000 {
		t.Errorf("%d ticks are free, and %d are not", free, taken)
	}
}
