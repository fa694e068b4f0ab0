package launch_test

import (
	"slices"
	"testing"

	"coble/api"
	"coble/launch"
)

// TestExamples holds the chapter's table of examples.
func TestExamples(t *testing.T) {
	rough := class()
	rough.Seas = 4
	if l := mustOpen(t, sea(), class(), ramp()); !slices.Equal(l, []api.Span{span(0, 4)}) {
		t.Errorf("Open of B and R = %v", l)
	}
	if l := mustOpen(t, sea(), rough, ramp()); len(l) > 0 {
		t.Errorf("Open with Seas 4 = %v", l)
	}
	if l := mustReach(t, first()); !slices.Equal(l, []int{2, 2, -1, -1, 1, 0, 1, -1, 2, 1, 1, 2}) {
		t.Errorf("Reach from 0 = %v", l)
	}
	if l := mustReach(t, first().at(3)); !slices.Equal(l, []int{-1, -1, -1, -1, 4, 3, -1, -1, -1, 4, 4, -1}) {
		t.Errorf("Reach from 3 = %v", l)
	}
	for _, x := range []struct {
		b                  api.Class
		fuel, cell, stay   int
		want, burns, ticks int
	}{{class(), 26, 11, 0, 0, 16, 5}, {class(), 25, 11, 0, 4, 0, 0}, {class(), 100, 11, 1, 3, 0, 0}, {class(), 100, 7, 0, 2, 0, 0}, {rough, 100, 7, 0, 1, 0, 0}, {class(), 19, 10, 1, 0, 9, 4}} {
		p := puzzle{sea(), x.b, ramp(), 0, x.fuel, api.Task{Cell: x.cell, Stay: x.stay}}
		if reason, v := mustGo(t, p); reason != x.want || v.Burns != x.burns || len(v.Cells) != x.ticks {
			t.Errorf("Go to %v with %d = %d, %v", p.k, p.fuel, reason, v)
		}
	}
	if _, v := mustGo(t, puzzle{sea(), class(), ramp(), 0, 19, api.Task{Cell: 10, Stay: 1}}); !slices.Equal(v.Cells, []int{5, 10, 10, 5}) {
		t.Errorf("Go with 19 to 10 = %v", v)
	}
	p := first()
	p.fuel = 25
	if l := mustRound(t, p); !slices.Equal(l, []int{4, 0, 2, 2, 0, 0, 0, 2, 4, 0, 0, 4}) {
		t.Errorf("Round = %v", l)
	}
	boats := rafts(6, 10, 4, 10)
	if a, b := mustBoard(t, boats, 12), mustBoard(t, boats, 21); !slices.Equal(a, []int{0, 1}) || !slices.Equal(b, []int{0, 1, 3}) {
		t.Errorf("Board of 12, 21 = %v, %v", a, b)
	}
	if l, e := launch.Board(boats, 31); e != api.ErrNone || len(l) > 0 {
		t.Errorf("Board of 31 = %v, %d", l, e)
	}
	loads := []api.Load{load(20, 30, 20), load(10, 30, 30)}
	if sure, may := mustRights(t, class(), loads); sure || !may {
		t.Errorf("Rights = %v, %v", sure, may)
	}
	if l := mustShed(t, class(), loads); !slices.Equal(l, []int{0}) {
		t.Errorf("Shed = %v", l)
	}
}
