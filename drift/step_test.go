package drift_test

import (
	"math"
	"math/rand/v2"
	"slices"
	"testing"

	"coble/api"
	"coble/drift"
)

// lane is a row of cells, all of them wet but for those that are named; the current is to the east, and there is no wind.
func lane(wide int, current api.Span, dry ...int) api.Drift {
	d := still(wide, 1, 5, 2)
	for _, cell := range dry {
		d.Chart.Depth[cell] = -5
	}
	d.Currents[0][0] = api.Push{Dirs: 1, Steps: current}
	return d
}

// TestStepOfCurrent is P2.2 without wind: how far, up to what is dry, and out of the chart.
func TestStepOfCurrent(t *testing.T) {
	for i, x := range []struct {
		d    api.Drift
		cell int
		want []int
	}{
		{lane(8, span(0, 0)), 1, []int{1}},
		{lane(8, span(2, 2)), 1, []int{3}},
		{lane(8, span(1, 3)), 1, []int{2, 3, 4}},
		{lane(8, span(0, 3)), 4, []int{4, 5, 6, 7}},
		{lane(8, span(0, 3)), 5, []int{-1, 5, 6, 7}},
		{lane(8, span(3, 3)), 5, []int{-1}},
		{lane(8, span(1, 1)), 7, []int{-1}},
		{lane(8, span(3, 3), 3), 1, []int{2}},
		{lane(8, span(1, 3), 2), 1, []int{1}},
		{lane(8, span(2, 3), 3), 1, []int{2}},
		{lane(8, span(0, 3), 1), 1, []int{1}},
		{lane(8, span(3, 3), 3, 5), 1, []int{2}},
		{lane(1, span(0, 1)), 0, []int{-1, 0}},
	} {
		if l := mustStep(t, x.d, x.cell, 0, 0); !slices.Equal(l, x.want) {
			t.Errorf("%d: Step = %v", i, l)
		}
	}
}

// TestStepOfWind is P2.2 of each leeway: the force times the leeway, in quarters, rounded down.
func TestStepOfWind(t *testing.T) {
	for leeway, want := range [][]int{{0}, {0}, {0, 1}, {0, 1, 2}, {0, 1, 2, 3}, {0, 1, 2, 3}, {0, 1, 3, 4}, {0, 1, 3, 5}, {0, 2, 4, 6}} {
		d := lane(12, span(0, 0))
		d.Wind[0] = api.Push{Dirs: 1, Steps: span(0, 3)}
		if l := mustStep(t, d, 0, 0, leeway); !slices.Equal(l, want) {
			t.Errorf("Step with the leeway %d = %v", leeway, l)
		}
		d.Wind[0].Steps = span(3, 3)
		if l := mustStep(t, d, 0, 0, leeway); !slices.Equal(l, want[len(want)-1:]) {
			t.Errorf("Step with the leeway %d, the force 3 = %v", leeway, l)
		}
	}
	// what the wind would blow past something dry is stopped before it, whatever it jumps over
	d := lane(12, span(0, 0), 3)
	d.Wind[0] = api.Push{Dirs: 1, Steps: span(2, 3)}
	if l := mustStep(t, d, 0, 0, 8); !slices.Equal(l, []int{2}) {
		t.Errorf("Step up to what is dry = %v", l)
	}
}

// TestStepOfBoth: the wind blows what the current has moved, but nothing that is outside or aground.
func TestStepOfBoth(t *testing.T) {
	west := api.Push{Dirs: 8, Steps: span(1, 1)}
	d := lane(8, span(1, 1))
	d.Wind[0] = west
	for _, x := range []struct {
		cell, leeway int
		want         []int
	}{{3, 4, []int{3}}, {3, 8, []int{2}}, {0, 8, []int{-1}}, {0, 4, []int{0}}, {7, 4, []int{-1}}, {-1, 8, []int{-1}}} {
		if l := mustStep(t, d, x.cell, 0, x.leeway); !slices.Equal(l, x.want) {
			t.Errorf("Step(%d) with the leeway %d = %v", x.cell, x.leeway, l)
		}
	}
	d = lane(8, span(0, 3), 3)
	d.Wind[0] = west
	if l := mustStep(t, d, 3, 0, 8); !slices.Equal(l, []int{3}) {
		t.Errorf("Step of what is aground = %v", l)
	}
}

// TestStepWithOneHeight: the height of the tide is the same for the whole tick, and all spans of it are tried.
func TestStepWithOneHeight(t *testing.T) {
	// 1 is dry up to the height 3, 0 up to the height 5: what floats in 0 floats on in 1
	d := lane(3, span(1, 1))
	d.Chart.Depth, d.Chart.Tide[0] = []int{-5, -3, 9}, span(4, 7)
	if l := mustStep(t, d, 0, 0, 0); !slices.Equal(l, []int{0, 1}) {
		t.Errorf("Step aground or afloat = %v", l)
	}
	// 1 is dry up to the height 5: with a current of 1 to 0, and back, 0 is left only with more
	d.Chart.Depth = []int{9, -5, -6}
	d.Currents[0][0].Steps = span(2, 2)
	d.Wind[0] = api.Push{Dirs: 8, Steps: span(1, 1)}
	if l := mustStep(t, d, 0, 0, 4); !slices.Equal(l, []int{-1, 0, 1}) {
		t.Errorf("Step with each height = %v", l)
	}
	d.Chart.Tide[0] = span(4, 6)
	if l := mustStep(t, d, 0, 0, 4); !slices.Equal(l, []int{-1, 0}) {
		t.Errorf("Step with lesser heights = %v", l)
	}
	d.Chart.Tide[0] = span(0, 5)
	if l := mustStep(t, d, 0, 0, 4); !slices.Equal(l, []int{-1}) {
		t.Errorf("Step with 1 dry = %v", l)
	}
}

// TestDryIsLessThanOne: a cell is dry up to the water 0; the swell takes its part.
func TestDryIsLessThanOne(t *testing.T) {
	for _, x := range []struct {
		depth, tide, swell int
		want               []int
	}{{0, 0, 0, []int{0}}, {1, 0, 0, []int{1}}, {0, 1, 0, []int{1}}, {1, 0, 1, []int{0}}, {1, 1, 1, []int{1}}, {-3, 6, 2, []int{1}}, {-3, 5, 2, []int{0}}} {
		d := lane(3, span(1, 1))
		d.Chart.Depth[1], d.Chart.Tide[0], d.Chart.Swell[0] = x.depth, span(x.tide, x.tide), x.swell
		if l := mustStep(t, d, 0, 0, 0); !slices.Equal(l, x.want) {
			t.Errorf("%v: Step = %v", x, l)
		}
		d.Chart.Depth[0] = x.depth
		if l := mustStep(t, d, 0, 0, 0); !slices.Equal(l, x.want) {
			t.Errorf("%v: Step from there = %v", x, l)
		}
	}
}

// TestStepDirections: one direction for all steps of a push, whichever it is, but another one for the wind.
func TestStepDirections(t *testing.T) {
	d := still(5, 5, 5, 2)
	for direction, want := range []int{14, 23, 21, 10, 1, 3} {
		d.Currents[0][0] = api.Push{Dirs: 1 << direction, Steps: span(2, 2)}
		if l := mustStep(t, d, 12, 0, 0); !slices.Equal(l, []int{want}) {
			t.Errorf("Step in the direction %d = %v", direction, l)
		}
	}
	d.Currents[0][0].Dirs = 63
	if l := mustStep(t, d, 12, 0, 0); !slices.Equal(l, []int{1, 3, 10, 14, 21, 23}) {
		t.Errorf("Step in all directions = %v", l)
	}
	d.Currents[0][0] = api.Push{Dirs: 1 | 8, Steps: span(1, 1)}
	d.Wind[0] = api.Push{Dirs: 2 | 16, Steps: span(1, 1)}
	if l := mustStep(t, d, 12, 0, 4); !slices.Equal(l, []int{5, 7, 16, 18}) {
		t.Errorf("Step in two directions, and in two others = %v", l)
	}
}

// TestStepOfZoneAndTick: the pushes are those of the zone of the first cell, and of the tick.
func TestStepOfZoneAndTick(t *testing.T) {
	d := still(9, 1, 5, 3)
	d.Zones = []int{0, 1, 0, 0, 0, 0, 0, 0, 0}
	east := func(n int) api.Push { return api.Push{Dirs: 1, Steps: span(n, n)} }
	d.Currents = [][]api.Push{{east(1), east(2)}, {east(3), east(0)}}
	d.Wind = []api.Push{east(0), east(1)}
	for _, x := range [][3]int{{0, 0, 1}, {1, 0, 4}, {0, 1, 3}, {1, 1, 2}, {2, 0, 3}, {2, 1, 5}} {
		if l := mustStep(t, d, x[0], x[1], 4); !slices.Equal(l, x[2:]) {
			t.Errorf("Step(%d, %d) = %v", x[0], x[1], l)
		}
	}
	d.Chart.Depth[2], d.Chart.Tide[1] = 0, span(1, 1)
	if l := mustStep(t, d, 1, 0, 4); !slices.Equal(l, []int{1}) {
		t.Errorf("Step without the tide of the next tick = %v", l)
	}
}

// TestStepOneByOne holds Step against each height, each direction and each number of steps.
func TestStepOneByOne(t *testing.T) {
	for _, p := range append(puzzles(1, 150, 6, 6, 4), puzzles(2, 6, 12, 12, 3)...) {
		for tick := range len(p.d.Chart.Tide) - 1 {
			for leeway := range 9 {
				for cell := -1; cell < len(p.d.Chart.Depth); cell++ {
					want := stepped(p.d, cell, tick, leeway)
					if l := mustStep(t, p.d, cell, tick, leeway); !slices.Equal(l, want) {
						t.Fatalf("Step(%v, %d, %d, %d) = %v, want %v", p.d, cell, tick, leeway, l, want)
					}
				}
			}
		}
	}
}

// TestStepOnLargeChart is P2.2 on a chart of 144 cells, with the widest pushes and all tides.
func TestStepOnLargeChart(t *testing.T) {
	r := rand.New(rand.NewPCG(3, 3))
	d := someSea(r, 12, 12, 3)
	wide := api.Push{Dirs: 63, Steps: span(0, 3)}
	for i := range d.Wind {
		d.Chart.Tide[i], d.Wind[i] = span(0, 200), wide
		for k := range d.Currents {
			d.Currents[k][i] = wide
		}
	}
	for i := range d.Chart.Depth {
		d.Chart.Depth[i] = -r.IntN(220)
	}
	for _, cell := range []int{0, 11, 63, 64, 70, 126, 127, 128, 132, 143} {
		if l := mustStep(t, d, cell, 1, 8); !slices.Equal(l, stepped(d, cell, 1, 8)) {
			t.Errorf("Step(%d) = %v", cell, l)
		}
	}
}

func TestStepInvalid(t *testing.T) {
	for _, x := range [][3]int{
		{-2, 0, 0}, {12, 0, 0}, {math.MinInt, 0, 0}, {math.MaxInt, 0, 0}, {0, -1, 0}, {0, 4, 0}, {0, 5, 0}, {0, math.MinInt, 0},
		{0, 0, -1}, {0, 0, 9}, {0, 0, math.MaxInt}, {-1, 4, 0}, {-1, 0, 9}, {-2, 4, 9},
	} {
		if l, e := drift.Step(sea(), x[0], x[1], x[2]); e != api.ErrArg || len(l) > 0 {
			t.Errorf("Step(%v) = %v, %d", x, l, e)
		}
	}
	// a chart of one tick has none from which there is a step
	if l, e := drift.Step(still(2, 2, 5, 1), 0, 0, 0); e != api.ErrArg || len(l) > 0 {
		t.Errorf("Step in the only tick = %v, %d", l, e)
	}
}
