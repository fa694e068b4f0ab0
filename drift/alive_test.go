package drift_test

import (
	"slices"
	"testing"

	"coble/api"
	"coble/drift"
)

// TestAlive is P2.8 for one who rests in a cell: the losses before a tick, less than the strength.
func TestAlive(t *testing.T) {
	d := still(2, 1, 5, 5)
	x := api.Drifter{At: 1, Cells: []int{0}}
	for i, c := range []struct {
		cost, strength api.Span
		sure, may      int
	}{
		{span(3, 3), span(7, 7), 3, 3},
		{span(3, 3), span(6, 6), 2, 2},
		{span(3, 3), span(9, 9), 3, 3},
		{span(3, 3), span(10, 10), 4, 4},
		{span(3, 3), span(100000, 100000), 4, 4},
		{span(3, 3), span(3, 4), 1, 2},
		{span(2, 4), span(5, 5), 2, 3},
		{span(2, 4), span(4, 5), 1, 3},
		{span(0, 0), span(1, 1), 4, 4},
		{span(0, 0), span(0, 0), 0, 0},
		{span(0, 0), span(0, 1), 0, 4},
		{span(0, 100), span(1, 1), 1, 4},
		{span(100, 100), span(0, 100000), 0, 4},
		{span(100, 100), span(300, 301), 3, 4},
		{span(5, 5), span(1, 5), 1, 1},
		{span(5, 5), span(1, 6), 1, 2},
	} {
		b := api.Body{Costs: []api.Span{c.cost}, Strength: c.strength}
		if sure, may := mustAlive(t, puzzle{d, x, nil, b}); sure != c.sure || may != c.may {
			t.Errorf("%d: Alive = %d, %d", i, sure, may)
		}
	}
}

// TestAliveElsewhere: what is lost depends on the zones on the way; outside nothing is.
func TestAliveElsewhere(t *testing.T) {
	d := still(3, 1, 5, 5)
	d.Zones, d.Currents = []int{0, 1, 1}, [][]api.Push{slices.Clone(d.Wind), slices.Clone(d.Wind)}
	for tick := range 4 {
		d.Currents[0][tick].Steps = span(0, 1)
		d.Currents[1][tick].Steps = span(1, 1)
	}
	b := api.Body{Costs: []api.Span{span(10, 10), span(1, 2)}, Strength: span(31, 31)}
	x := api.Drifter{Cells: []int{0}}
	for i, c := range []struct {
		seen      []api.Sighting
		strength  int
		sure, may int
	}{
		{nil, 31, 3, 4},
		{nil, 12, 1, 2},
		{nil, 13, 1, 4},
		{[]api.Sighting{seen(2, 0)}, 23, 2, 2},
		{[]api.Sighting{seen(2, 0)}, 31, 3, 3},
		{[]api.Sighting{seen(2, 0)}, 32, 3, 4},
		{[]api.Sighting{seen(4, 0)}, 40, 3, 3},
		{[]api.Sighting{none(3, 0, 1, 2)}, 15, 4, 4},
		{[]api.Sighting{none(3, 0, 1, 2)}, 14, 2, 4},
		{[]api.Sighting{none(3, 0, 1, 2)}, 12, 1, 2},
		{[]api.Sighting{none(4, 0, 1, 2)}, 22, 2, 4},
		{[]api.Sighting{none(4, 0, 1, 2)}, 25, 4, 4},
		{[]api.Sighting{none(4, 0, 1, 2)}, 24, 3, 4},
	} {
		b.Strength = span(c.strength, c.strength)
		if sure, may := mustAlive(t, puzzle{d, x, c.seen, b}); sure != c.sure || may != c.may {
			t.Errorf("%d: Alive = %d, %d", i, sure, may)
		}
	}
}

// TestAliveInTheLastTick: one who drifts from the last tick on loses nothing.
func TestAliveInTheLastTick(t *testing.T) {
	x := api.Drifter{At: 4, Cells: []int{0, 4}}
	for _, c := range []struct {
		strength  api.Span
		sure, may int
	}{{span(0, 0), 3, 3}, {span(0, 1), 3, 4}, {span(1, 1), 4, 4}} {
		b := body()
		b.Strength = c.strength
		if sure, may := mustAlive(t, puzzle{sea(), x, nil, b}); sure != c.sure || may != c.may {
			t.Errorf("Alive with %v = %d, %d", c.strength, sure, may)
		}
	}
}

// TestAliveInvalid: ErrBody, and ErrNone if the body is valid.
func TestAliveInvalid(t *testing.T) {
	for i, b := range badBodies() {
		for _, seen := range [][]api.Sighting{nil, sightings(), never()} {
			if sure, may, e := drift.Alive(sea(), drifter(), seen, b); sure != 0 || may != 0 || e != api.ErrBody {
				t.Errorf("%d: Alive = %d, %d, %d", i, sure, may, e)
			}
		}
	}
	if sure, may, e := drift.Alive(sea(), drifter(), never(), body()); sure != 0 || may != 0 || e != api.ErrNone {
		t.Errorf("Alive in no history = %d, %d, %d", sure, may, e)
	}
	for i, b := range []api.Body{
		{Costs: []api.Span{span(0, 0), span(100, 100)}}, {Costs: []api.Span{span(0, 100), span(0, 0)}, Strength: span(0, 100000)},
		{Costs: []api.Span{span(1, 1), span(2, 2)}, Strength: span(100000, 100000)},
	} {
		if _, _, e := drift.Alive(sea(), drifter(), nil, b); e != api.OK {
			t.Errorf("%d: Alive: %d", i, e)
		}
	}
}

// TestAliveOneByOne holds Alive against all histories of small drifts (P2.8, P2.13).
func TestAliveOneByOne(t *testing.T) {
	for _, p := range puzzles(6, 500, 3, 3, 4) {
		l := possible(histories(p.d, p.x), p.x, p.seen)
		sure, may, e := drift.Alive(p.d, p.x, p.seen, p.b)
		if len(l) == 0 {
			if e != api.ErrNone || sure != 0 || may != 0 {
				t.Fatalf("Alive(%v) = %d, %d, %d", p, sure, may, e)
			}
			continue
		}
		wantSure, wantMay := len(p.d.Chart.Tide)-1, p.x.At-1
		for _, h := range l {
			s, m := aliveIn(p, h)
			wantSure, wantMay = min(wantSure, s), max(wantMay, m)
		}
		if e != api.OK || sure != wantSure || may != wantMay {
			t.Fatalf("Alive(%v) = %d, %d, %d, want %d, %d", p, sure, may, e, wantSure, wantMay)
		}
	}
}

// aliveIn tells the last ticks in which someone is alive in one history, with the most losses and the least strength, and
// the other way round.
func aliveIn(p puzzle, h history) (sure, may int) {
	last := func(strength int, cost func(api.Span) int) int {
		tick := p.x.At - 1
		for _, cell := range h.cells {
			if strength <= 0 {
				break
			}
			tick++
			if cell >= 0 {
				strength -= cost(p.b.Costs[p.d.Zones[cell]])
			}
		}
		return tick
	}
	sure = last(p.b.Strength.Low, func(s api.Span) int { return s.High })
	may = last(p.b.Strength.High, func(s api.Span) int { return s.Low })
	return sure, may
}
