package lanes_test

import (
	"math/rand/v2"
	"slices"
	"testing"

	"coble/api"
	"coble/chart"
	"coble/lanes"
)

func span(low, high int) api.Span { return api.Span{Low: low, High: high} }

// sea is the chart C of the chapter's examples.
func sea() api.Chart {
	return api.Chart{
		Wide: 4, High: 3, Depth: []int{0, 0, -50, -90, 30, 20, 10, -20, 60, 60, 40, 30},
		Tide:  []api.Span{span(10, 14), span(20, 26), span(30, 36), span(20, 26), span(10, 14)},
		Swell: []int{5, 5, 5, 5, 5},
	}
}

// calm is water of one depth, without tide and swell.
func calm(wide, high, depth, ticks int) api.Chart {
	return api.Chart{
		Wide: wide, High: high, Depth: slices.Repeat([]int{depth}, wide*high),
		Tide: make([]api.Span, ticks), Swell: make([]int, ticks),
	}
}

func boat(at int, cells ...int) api.Leg { return api.Leg{At: at, Draught: 20, Cells: cells} }

func tug(at int, cells ...int) api.Leg { return towing(boat(at, cells...)) }

func plane(at, level int, cells ...int) api.Leg { return api.Leg{At: at, Level: level, Cells: cells} }

func towing(l api.Leg) api.Leg {
	l.Tail = true
	return l
}

// legs are the legs L of the chapter's examples.
func legs() []api.Leg {
	return []api.Leg{boat(0, 4, 5, 10, 9), tug(1, 10, 5, 6), plane(0, 1, 6, 5, 4)}
}

// trip is a trip of a boat; that from 4 to 6 in the tick 0 is the trip T of the chapter's examples.
func trip(at, from, to int) api.Trip { return api.Trip{At: at, Draught: 20, From: from, To: to} }

func flight(at, level, from, to int) api.Trip {
	return api.Trip{At: at, Level: level, From: from, To: to}
}

// legOf is the leg of a trip by some cells.
func legOf(t api.Trip, cells []int) api.Leg {
	return api.Leg{At: t.At, Level: t.Level, Draught: t.Draught, Tail: t.Tail, Cells: cells}
}

func copied(c api.Chart) api.Chart {
	c.Depth, c.Tide, c.Swell = slices.Clone(c.Depth), slices.Clone(c.Tide), slices.Clone(c.Swell)
	return c
}

// puzzle is a traffic, and what is asked of it.
type puzzle struct {
	c           api.Chart
	l           []api.Leg
	trips       []api.Trip
	level, cell int
}

// puzzles returns traffics that look random and are the same in every run.
func puzzles(seed uint64, n, wide, high, ticks, most int) []puzzle {
	r := rand.New(rand.NewPCG(seed, 6))
	var l []puzzle
	for range n {
		p := puzzle{c: someSea(r, 1+r.IntN(wide), 1+r.IntN(high), 1+r.IntN(ticks))}
		for range r.IntN(most + 1) {
			p.l = append(p.l, someLeg(r, p.c))
		}
		for range 1 + r.IntN(4) {
			p.trips = append(p.trips, someTrip(r, p.c))
		}
		p.level, p.cell = r.IntN(3), r.IntN(len(p.c.Depth))
		l = append(l, p)
	}
	return l
}

// someSea returns a sea on which it sometimes depends on the tide and the swell whether a boat floats.
func someSea(r *rand.Rand, wide, high, ticks int) api.Chart {
	c := calm(wide, high, 0, ticks)
	for i := range c.Depth {
		c.Depth[i] = r.IntN(30) - 3
	}
	for i := range c.Tide {
		low := r.IntN(5)
		c.Tide[i], c.Swell[i] = span(low, low+r.IntN(4)), r.IntN(4)
	}
	return c
}

// someLeg returns a valid leg. A boat that is not afloat where it is to begin becomes an aircraft.
func someLeg(r *rand.Rand, c api.Chart) api.Leg {
	l := api.Leg{At: r.IntN(1 + r.IntN(len(c.Tide))), Draught: 1 + r.IntN(6), Tail: r.IntN(3) == 0}
	if l.Level = someLevel(r); l.Level > 0 {
		l.Draught = 0
	}
	cell := r.IntN(len(c.Depth))
	if !floats(c, l, cell, l.At) {
		l.Level, l.Draught = 1, 0
	}
	for n := 1 + r.IntN(len(c.Tide)); n > 0; n-- {
		l.Cells = append(l.Cells, cell)
		next := l.At + len(l.Cells)
		var on []int
		for b := range c.Depth {
			if apart, _ := chart.Apart(c, cell, b); next < len(c.Tide) && apart <= 1 && floats(c, l, b, next) {
				on = append(on, b)
			}
		}
		if len(on) == 0 {
			break
		}
		cell = on[r.IntN(len(on))]
	}
	return l
}

func someLevel(r *rand.Rand) int { return []int{0, 0, 0, 1, 1, 2}[r.IntN(6)] }

func someTrip(r *rand.Rand, c api.Chart) api.Trip {
	t := api.Trip{At: r.IntN(1 + r.IntN(len(c.Tide))), Draught: 1 + r.IntN(6), Tail: r.IntN(3) == 0}
	if t.Level = someLevel(r); t.Level > 0 {
		t.Draught = 0
	}
	t.From, t.To = r.IntN(len(c.Depth)), r.IntN(len(c.Depth))
	return t
}

// mustClashes and the others below return results that have to come without an error.
func mustClashes(t *testing.T, c api.Chart, l []api.Leg) [][3]int {
	t.Helper()
	two, e := lanes.Clashes(c, l)
	if e != api.OK {
		t.Fatalf("Clashes(%v, %v) = %v, %d", c, l, two, e)
	}
	return two
}

func mustFree(t *testing.T, c api.Chart, l []api.Leg, level, cell int) []api.Span {
	t.Helper()
	ticks, e := lanes.Free(c, l, level, cell)
	if e != api.OK {
		t.Fatalf("Free(%v, %v, %d, %d) = %v, %d", c, l, level, cell, ticks, e)
	}
	return ticks
}

// tryRoute returns no cells if there is no route.
func tryRoute(t *testing.T, c api.Chart, l []api.Leg, k api.Trip) []int {
	t.Helper()
	cells, e := lanes.Route(c, l, k)
	if e != api.OK && e != api.ErrNone || (e == api.OK) != (len(cells) > 0) {
		t.Fatalf("Route(%v, %v, %v) = %v, %d", c, l, k, cells, e)
	}
	return cells
}

// tryBlock reports whether there is no route, and so legs in its way.
func tryBlock(t *testing.T, c api.Chart, l []api.Leg, k api.Trip) ([]int, bool) {
	t.Helper()
	blocks, e := lanes.Block(c, l, k)
	if e != api.OK && (e != api.ErrNone || len(blocks) > 0) {
		t.Fatalf("Block(%v, %v, %v) = %v, %d", c, l, k, blocks, e)
	}
	return blocks, e == api.OK
}

func mustPlan(t *testing.T, c api.Chart, l []api.Leg, trips []api.Trip) []int {
	t.Helper()
	ends, e := lanes.Plan(c, l, trips)
	if e != api.OK || len(ends) != len(trips) {
		t.Fatalf("Plan(%v, %v, %v) = %v, %d", c, l, trips, ends, e)
	}
	return ends
}
