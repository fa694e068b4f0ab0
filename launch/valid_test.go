package launch_test

import (
	"math"
	"slices"
	"testing"

	"coble/api"
	"coble/launch"
)

// fields are the fields of a class, with the least and the greatest value that each of them may have.
func fields() map[string]func(b *api.Class) (field *int, low, high int) {
	return map[string]func(b *api.Class) (*int, int, int){
		"Draught": func(b *api.Class) (*int, int, int) { return &b.Draught, 1, 100 },
		"Seas":    func(b *api.Class) (*int, int, int) { return &b.Seas, 0, 100 },
		"Move":    func(b *api.Class) (*int, int, int) { return &b.Move, 2, 100 },
		"Idle":    func(b *api.Class) (*int, int, int) { return &b.Idle, 0, 60 },
		"Reserve": func(b *api.Class) (*int, int, int) { return &b.Reserve, 0, 5000 },
		"Seats":   func(b *api.Class) (*int, int, int) { return &b.Seats, 0, 40 },
		"Moment":  func(b *api.Class) (*int, int, int) { return &b.Moment, 0, 1000000 },
	}
}

// plain is a class whose Idle and Move lie within what fields says.
func plain(name string) api.Class {
	b := class()
	switch name {
	case "Move":
		b.Idle = 2
	case "Idle":
		b.Move = 60
	}
	return b
}

// badClasses are classes that are not valid for one reason each.
func badClasses() []api.Class {
	l := []api.Class{{}, {Draught: 1, Idle: -1, Move: -1}, {Draught: 1, Idle: 0, Move: 0}, {Draught: 1, Idle: 101, Move: 101}}
	for name, of := range fields() {
		b := plain(name)
		field, low, high := of(&b)
		for _, n := range []int{low - 1, high + 1, math.MinInt, math.MaxInt} {
			*field = n
			l = append(l, b)
		}
	}
	return l
}

// TestCheck is P5.1: each field with its least and its greatest value, and with what lies beyond.
func TestCheck(t *testing.T) {
	for name, of := range fields() {
		b := plain(name)
		field, low, high := of(&b)
		for _, n := range []int{low, (low + high) / 2, high} {
			if *field = n; launch.Check(b) != api.OK {
				t.Errorf("Check with %s %d: %d", name, n, launch.Check(b))
			}
		}
	}
	for _, b := range badClasses() {
		if e := launch.Check(b); e != api.ErrClass {
			t.Errorf("Check(%v): %d", b, e)
		}
	}
	least, most := api.Class{Draught: 1, Move: 1}, api.Class{Draught: 100, Seas: 100, Move: 100, Idle: 100, Reserve: 5000, Seats: 40, Moment: 1000000}
	if e, f := launch.Check(least), launch.Check(most); e != api.OK || f != api.OK {
		t.Errorf("Check of the least and the greatest one: %d, %d", e, f)
	}
}

// badCharts are charts that are not valid.
func badCharts() []api.Chart {
	short, swell, tide := sea(), sea(), sea()
	short.Depth = short.Depth[1:]
	swell.Swell[4] = 101
	tide.Tide[0] = span(3, 2)
	none := sea()
	none.Tide, none.Swell = nil, nil
	return []api.Chart{{}, short, swell, tide, none}
}

// badRamps are ramps that are not valid, some of them only with their own draught.
func badRamps() []api.Ramp {
	return []api.Ramp{
		{Cell: 12, Draught: 1, Most: 200, Surf: 5}, {Cell: -1, Draught: 1, Most: 200, Surf: 5}, {Cell: 5, Most: 200, Surf: 5}, {Cell: 5, Draught: 101, Most: 200, Surf: 5},
		{Cell: 5, Draught: 1, Least: 3, Most: 2, Surf: 5}, {Cell: 5, Draught: 1, Least: -1, Most: 2, Surf: 5}, {Cell: 5, Draught: 1, Most: 201, Surf: 5},
		{Cell: 5, Draught: 1, Most: 200, Surf: 101}, {Cell: 5, Draught: 1, Most: 200, Surf: -1}, {Cell: math.MaxInt, Draught: math.MinInt, Most: math.MaxInt, Surf: math.MaxInt},
	}
}

// badLoads are lists of loads that are not valid.
func badLoads() [][]api.Load {
	fine := load(20, 30, 20)
	var l [][]api.Load
	for _, x := range []api.Load{load(-1, 0, 0), load(2, 1, 0), load(0, 1001, 0), load(0, 0, 51), load(0, 0, -1), load(math.MinInt, math.MaxInt, 1), load(1001, 1001, 1), load(0, 0, math.MaxInt), load(-2, -1, 3)} {
		l = append(l, []api.Load{x}, []api.Load{fine, x}, append(slices.Repeat([]api.Load{fine}, 9), x))
	}
	return l
}

// TestJustValid: the least and the greatest values that are still valid.
func TestJustValid(t *testing.T) {
	most := api.Ramp{Cell: 11, Draught: 100, Least: 200, Most: 200, Surf: 100}
	least := api.Ramp{Cell: 0, Draught: 1}
	for _, r := range []api.Ramp{most, least} {
		if l := mustOpen(t, sea(), class(), r); len(l) > 0 {
			t.Errorf("Open of %v = %v", r, l)
		}
	}
	for _, p := range []puzzle{first(), first().at(4)} {
		for _, fuel := range []int{0, 5000} {
			for _, k := range []api.Task{{}, {Cell: 11}, {Stay: 8}, {Cell: 11, Stay: 8}} {
				p.fuel, p.k = fuel, k
				mustGo(t, p)
				mustRound(t, p)
			}
		}
		mustReach(t, p)
	}
	for _, l := range [][]api.Load{nil, {load(0, 0, 0)}, {load(1000, 1000, 50)}, slices.Repeat([]api.Load{load(0, 1000, 50)}, 10)} {
		mustRights(t, class(), l)
		mustShed(t, class(), l)
	}
	mustBoard(t, rafts(slices.Repeat([]int{40}, 10)...), 400)
	mustBoard(t, nil, 0)
}
