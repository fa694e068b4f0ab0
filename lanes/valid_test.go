package lanes_test

import (
	"math"
	"slices"
	"testing"

	"coble/api"
	"coble/lanes"
)

// deep is water in which every boat floats.
func deep() api.Chart { return calm(4, 3, 200, 5) }

func badCharts() []api.Chart {
	l := []api.Chart{{}, calm(13, 1, 200, 5), calm(4, 0, 200, 5), calm(4, 3, 200, 0), calm(4, 3, 200, 61), calm(4, 3, 1001, 5)}
	for range 4 {
		l = append(l, deep())
	}
	n := len(l)
	l[n-1].Swell[4] = 101
	l[n-2].Tide[4] = span(3, 2)
	l[n-3].Depth = l[n-3].Depth[:11]
	l[n-4].Swell = l[n-4].Swell[:4]
	return l
}

// badUnits are levels and draughts that do not go together.
func badUnits() [][2]int {
	l := [][2]int{{0, 0}, {0, -1}, {0, 101}, {0, math.MinInt}, {0, math.MaxInt}}
	for _, draught := range []int{1, -1, 20, 100, math.MinInt, math.MaxInt} {
		l = append(l, [2]int{1, draught}, [2]int{3, draught})
	}
	for _, level := range []int{-1, 4, math.MinInt, math.MaxInt} {
		l = append(l, [2]int{level, 0}, [2]int{level, 20})
	}
	return l
}

// badLegs are legs that are not valid for the chart of the examples; all but the last ones are not valid for deep water
// either.
func badLegs() []api.Leg {
	l := []api.Leg{
		{}, boat(0), tug(0), plane(0, 1), plane(4, 3),
		boat(-1, 5), boat(-1, 5, 5, 5), boat(5, 5), boat(4, 5, 5), boat(2, 5, 5, 5, 5), boat(0, 5, 5, 5, 5, 5, 5), plane(-1, 1, 5), plane(5, 1, 5), plane(0, 1, slices.Repeat([]int{5}, 1000)...),
		boat(math.MinInt, 5), boat(math.MaxInt, 5), boat(math.MaxInt, 5, 5), plane(math.MinInt, 1, 5, 5), plane(math.MaxInt, 1, 5, 5), plane(math.MaxInt-1, 1, 5, 5, 5),
		boat(0, 4, 6), boat(0, 5, 5, 4, 6), plane(0, 1, 4, 6), plane(0, 2, 0, 5), plane(0, 3, 3, 4), plane(0, 1, 8, 7), plane(0, 1, 5, 10, 9, 11), plane(3, 1, 0, 11),
	}
	for _, cell := range []int{-1, 12, 144, math.MinInt, math.MaxInt} {
		l = append(l, boat(0, cell), boat(0, 5, cell), boat(0, cell, 5), plane(0, 1, cell), plane(0, 1, 11, cell), plane(0, 1, 0, cell, 0))
	}
	for _, x := range badUnits() {
		l = append(l, api.Leg{Level: x[0], Draught: x[1], Cells: []int{9}})
	}
	return append(l, aground()...)
}

// aground are legs of boats that do not surely float on the chart of the examples.
func aground() []api.Leg {
	return []api.Leg{
		boat(0, 6), boat(4, 6), boat(0, 5, 6, 7), boat(0, 5, 6, 6, 6, 6), boat(2, 6, 2), tug(0, 4, 5, 2), boat(1, 0),
		{Draught: 18, Cells: []int{6}}, {Draught: 16, Cells: []int{6}}, {Draught: 36, At: 2, Cells: []int{6}}, {Draught: 66, Cells: []int{9}},
	}
}

// goodLegs are legs that are just valid for the chart of the examples.
func goodLegs() []api.Leg {
	return append(legs(),
		boat(0, 5), boat(4, 5), boat(0, 5, 5, 5, 5, 5), boat(3, 5, 10), tug(4, 9), tug(0, 4, 9, 10, 11, 11), boat(1, 6), boat(1, 6, 6, 6), boat(0, 5, 6, 6, 6, 5), boat(2, 0),
		api.Leg{Draught: 15, Cells: []int{6}}, api.Leg{Draught: 35, At: 2, Cells: []int{6}}, api.Leg{Draught: 65, Cells: []int{9}}, api.Leg{Draught: 1, Cells: []int{0}},
		plane(0, 1, 7), plane(4, 3, 3), plane(0, 2, 3, 2, 1, 0, 4), towing(plane(0, 3, 7, 7, 7, 7, 7)), plane(0, 1, 5, 6), plane(0, 1, 5, 10), plane(0, 1, 5, 9), plane(0, 1, 5, 4), plane(0, 1, 5, 1), plane(0, 1, 5, 2),
	)
}

// TestChecks is P6.1: the legs are valid up to their last values, and not behind them.
func TestChecks(t *testing.T) {
	for _, l := range goodLegs() {
		if e := lanes.Check(sea(), []api.Leg{l}); e != api.OK {
			t.Errorf("Check(%v) = %d", l, e)
		}
	}
	for _, l := range badLegs() {
		for _, all := range [][]api.Leg{{l}, append(legs(), l), append([]api.Leg{l}, legs()...), slices.Repeat([]api.Leg{l}, 12)} {
			if e := lanes.Check(sea(), all); e != api.ErrLeg {
				t.Errorf("Check of %v and %d other legs = %d", l, len(all)-1, e)
			}
		}
	}
	for _, l := range aground() {
		if e := lanes.Check(deep(), []api.Leg{l}); e != api.OK {
			t.Errorf("Check(%v) in deep water = %d", l, e)
		}
	}
	for _, draught := range []int{1, 2, 99, 100} {
		if e := lanes.Check(deep(), []api.Leg{{Draught: draught, Cells: []int{0}}}); e != api.OK {
			t.Errorf("Check of the draught %d = %d", draught, e)
		}
	}
}

// TestChecksNumbers is P6.1: there are at most 12 legs; each of them may be as long as the chart.
func TestChecksNumbers(t *testing.T) {
	for n := range 15 {
		for _, l := range []api.Leg{boat(0, 5), plane(4, 3, 11)} {
			if e := lanes.Check(sea(), slices.Repeat([]api.Leg{l}, n)); (e == api.OK) != (n <= 12) || e != api.OK && e != api.ErrLeg {
				t.Errorf("Check of %d times %v = %d", n, l, e)
			}
		}
	}
	long := slices.Repeat([]int{143}, 60)
	for _, l := range []api.Leg{boat(0, long...), tug(0, long...), plane(0, 3, long...), boat(59, 143)} {
		if e := lanes.Check(calm(12, 12, 20, 60), slices.Repeat([]api.Leg{l}, 12)); e != api.OK {
			t.Errorf("Check of the longest legs = %d", e)
		}
	}
	if e := lanes.Check(calm(1, 1, 0, 1), nil); e != api.OK {
		t.Errorf("Check of no legs = %d", e)
	}
}

// TestChecksCharts is P6.1: ErrChart comes before ErrLeg.
func TestChecksCharts(t *testing.T) {
	for i, c := range badCharts() {
		for _, l := range [][]api.Leg{nil, legs(), {{}}, make([]api.Leg, 13)} {
			if e := lanes.Check(c, l); e != api.ErrChart {
				t.Errorf("%d: Check with %d legs = %d", i, len(l), e)
			}
		}
	}
}

// TestChecksOneByOne is P6.1: legs with a cell, a tick, a level or a draught changed are valid just if they are so one by
// one.
func TestChecksOneByOne(t *testing.T) {
	valid := 0
	for _, p := range puzzles(1, 600, 4, 4, 6, 6) {
		for _, l := range p.l {
			for i := range l.Cells {
				for cell := range p.c.Depth {
					other := l
					other.Cells = slices.Clone(l.Cells)
					other.Cells[i] = cell
					other.At += cell%3 - 1
					want := isLeg(p.c, other)
					if e := lanes.Check(p.c, []api.Leg{l, other}); (e == api.OK) != want || e != api.OK && e != api.ErrLeg {
						t.Fatalf("Check(%v, %v) = %d", p.c, other, e)
					}
					if want {
						valid++
					}
				}
			}
		}
	}
	if valid < 2000 {
		t.Errorf("only %d are valid", valid)
	}
}

// badTrips are trips that are not valid in any water of 12 cells and five ticks.
func badTrips() []api.Trip {
	var l []api.Trip
	for _, cell := range []int{-1, 12, 144, math.MinInt, math.MaxInt} {
		l = append(l, trip(0, cell, 5), trip(0, 5, cell), trip(0, cell, cell), flight(0, 1, cell, 5), flight(0, 3, 5, cell))
	}
	for _, at := range []int{-1, 5, 60, math.MinInt, math.MaxInt} {
		l = append(l, trip(at, 5, 5), flight(at, 1, 5, 6))
	}
	for _, x := range badUnits() {
		l = append(l, api.Trip{Level: x[0], Draught: x[1], From: 9, To: 10})
	}
	return l
}

// TestTrips: a trip is valid up to its last values, and not behind them; one that cannot be made is valid too.
func TestTrips(t *testing.T) {
	for _, k := range badTrips() {
		for _, c := range []api.Chart{sea(), deep()} {
			if cells, e := lanes.Route(c, nil, k); e != api.ErrTrip || len(cells) > 0 {
				t.Errorf("Route of %v = %v, %d", k, cells, e)
			}
		}
	}
	for _, k := range []api.Trip{{Draught: 1}, {Draught: 100, From: 11, To: 11}, flight(4, 3, 0, 0), flight(0, 1, 11, 11), {At: 4, Level: 2, Tail: true, From: 5, To: 5}} {
		if cells := tryRoute(t, deep(), nil, k); !slices.Equal(cells, []int{k.From}) {
			t.Errorf("Route of %v, which stays = %v", k, cells)
		}
	}
	for _, k := range []api.Trip{trip(0, 6, 6), trip(0, 7, 5), trip(0, 5, 7), trip(4, 5, 10), {Draught: 18, From: 6, To: 6}, {Draught: 100, From: 9, To: 9}, flight(4, 1, 0, 1), flight(2, 1, 0, 11)} {
		if cells := tryRoute(t, sea(), nil, k); len(cells) > 0 {
			t.Errorf("Route of %v, which cannot be made = %v", k, cells)
		}
		if blocks, ok := tryBlock(t, sea(), legs(), k); !ok || len(blocks) > 0 {
			t.Errorf("Block of %v, which cannot be made = %v, %v", k, blocks, ok)
		}
	}
}
