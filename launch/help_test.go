package launch_test

import (
	"math/rand/v2"
	"slices"
	"testing"

	"coble/api"
	"coble/launch"
)

func span(low, high int) api.Span { return api.Span{Low: low, High: high} }

// sea is the chart C of the chapter's examples.
func sea() api.Chart {
	return api.Chart{
		Wide: 4, High: 3, Depth: []int{0, 0, -50, -90, 30, 20, 10, -20, 60, 60, 40, 30},
		Tide:  []api.Span{span(10, 14), span(20, 26), span(30, 36), span(20, 26), span(10, 14)},
		Swell: []int{5, 5, 5, 5, 5},
	}
}

// class is the class B of the chapter's examples.
func class() api.Class {
	return api.Class{Draught: 20, Seas: 5, Move: 4, Idle: 1, Reserve: 10, Seats: 6, Moment: 1000}
}

// ramp is the ramp R of the chapter's examples.
func ramp() api.Ramp { return api.Ramp{Cell: 5, Draught: 1, Most: 200, Surf: 5} }

// rafts are classes that differ in their seats.
func rafts(seats ...int) []api.Class {
	var l []api.Class
	for _, n := range seats {
		b := class()
		b.Seats = n
		l = append(l, b)
	}
	return l
}

func load(low, high, height int) api.Load { return api.Load{Weight: span(low, high), Height: height} }

// calm is water of one depth, without tide and swell.
func calm(wide, high, depth, ticks int) api.Chart {
	return api.Chart{
		Wide: wide, High: high, Depth: slices.Repeat([]int{depth}, wide*high),
		Tide: make([]api.Span, ticks), Swell: make([]int, ticks),
	}
}

// slip is a ramp that is always open on calm water.
func slip(cell int) api.Ramp { return api.Ramp{Cell: cell, Draught: 1, Most: 200, Surf: 100} }

func copied(c api.Chart) api.Chart {
	c.Depth, c.Tide, c.Swell = slices.Clone(c.Depth), slices.Clone(c.Tide), slices.Clone(c.Swell)
	return c
}

// puzzle is a launch that is to be decided about.
type puzzle struct {
	c          api.Chart
	b          api.Class
	r          api.Ramp
	tick, fuel int
	k          api.Task
}

// first is the launch of the chapter's examples that just has enough fuel for the call to the cell 11.
func first() puzzle { return puzzle{sea(), class(), ramp(), 0, 26, api.Task{Cell: 11}} }

// puzzles returns launches that look random and are the same in every run.
func puzzles(seed uint64, n, wide, high, ticks int) []puzzle {
	r := rand.New(rand.NewPCG(seed, 5))
	var l []puzzle
	for range n {
		p := puzzle{c: someSea(r, 1+r.IntN(wide), 1+r.IntN(high), 1+r.IntN(ticks)), b: someClass(r)}
		cells := len(p.c.Depth)
		p.r = api.Ramp{Cell: r.IntN(cells), Draught: 1 + r.IntN(9), Least: []int{0, 0, 1, 2}[r.IntN(4)], Most: 5 + r.IntN(5), Surf: 1 + r.IntN(4)}
		p.tick, p.fuel = r.IntN(1+r.IntN(len(p.c.Tide))), p.b.Reserve+r.IntN(1+r.IntN(60))
		p.k = api.Task{Cell: r.IntN(cells), Stay: r.IntN(4)}
		l = append(l, p)
	}
	return l
}

// someSea returns a sea on which it often depends on the tide and the swell whether a boat floats.
func someSea(r *rand.Rand, wide, high, ticks int) api.Chart {
	c := calm(wide, high, 0, ticks)
	for i := range c.Depth {
		c.Depth[i] = r.IntN(24) - 3
	}
	for i := range c.Tide {
		low := r.IntN(5)
		c.Tide[i], c.Swell[i] = span(low, low+r.IntN(4)), []int{0, 0, 1, 1, 2, 2, 3}[r.IntN(7)]
	}
	return c
}

func someClass(r *rand.Rand) api.Class {
	b := api.Class{Draught: 1 + r.IntN(6), Seas: 2 + r.IntN(3), Move: 1 + r.IntN(8), Reserve: r.IntN(10)}
	b.Idle = []int{0, b.Move, r.IntN(b.Move + 1), r.IntN(b.Move + 1)}[r.IntN(4)]
	return b
}

// mustOpen and the others below return results that have to come without an error.
func mustOpen(t *testing.T, c api.Chart, b api.Class, r api.Ramp) []api.Span {
	t.Helper()
	l, e := launch.Open(c, b, r)
	if e != api.OK {
		t.Fatalf("Open(%v, %v, %v) = %v, %d", c, b, r, l, e)
	}
	return l
}

func mustReach(t *testing.T, p puzzle) []int {
	t.Helper()
	l, e := launch.Reach(p.c, p.b, p.r, p.tick)
	if e != api.OK || len(l) != len(p.c.Depth) {
		t.Fatalf("Reach of %v = %v, %d", p, l, e)
	}
	return l
}

// mustGo also holds that there is a voyage with the reason 0, and that there is none with any other one.
func mustGo(t *testing.T, p puzzle) (int, api.Voyage) {
	t.Helper()
	reason, v, e := launch.Go(p.c, p.b, p.r, p.tick, p.fuel, p.k)
	if e != api.OK || reason < 0 || reason > 4 || (reason == 0) != (len(v.Cells) > 0) || reason != 0 && v.Burns != 0 {
		t.Fatalf("Go of %v = %d, %v, %d", p, reason, v, e)
	}
	return reason, v
}

func mustRound(t *testing.T, p puzzle) []int {
	t.Helper()
	l, e := launch.Round(p.c, p.b, p.r, p.tick, p.fuel, p.k.Stay)
	if e != api.OK || len(l) != len(p.c.Depth) {
		t.Fatalf("Round of %v = %v, %d", p, l, e)
	}
	return l
}

func mustBoard(t *testing.T, classes []api.Class, people int) []int {
	t.Helper()
	l, e := launch.Board(classes, people)
	if e != api.OK {
		t.Fatalf("Board(%v, %d) = %v, %d", classes, people, l, e)
	}
	return l
}

func mustRights(t *testing.T, b api.Class, l []api.Load) (sure, may bool) {
	t.Helper()
	sure, may, e := launch.Rights(b, l)
	if e != api.OK || sure && !may {
		t.Fatalf("Rights(%v, %v) = %v, %v, %d", b, l, sure, may, e)
	}
	return sure, may
}

func mustShed(t *testing.T, b api.Class, l []api.Load) []int {
	t.Helper()
	away, e := launch.Shed(b, l)
	if e != api.OK {
		t.Fatalf("Shed(%v, %v) = %v, %d", b, l, away, e)
	}
	return away
}
