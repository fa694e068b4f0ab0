package chart_test

import (
	"testing"

	"coble/api"
	"coble/chart"
)

// swelling has another tide and another swell in each tick.
func swelling() api.Chart {
	return api.Chart{
		Wide: 3, High: 2, Depth: []int{0, 7, -30, 1000, -1000, 12},
		Tide:  []api.Span{span(0, 0), span(3, 9), span(200, 200), span(0, 200)},
		Swell: []int{0, 4, 100, 1},
	}
}

// TestWater is P1.4 for all cells and ticks of C: wet cells and dry ones, the first tick and the last one.
func TestWater(t *testing.T) {
	c := sea()
	for tick, tide := range []api.Span{span(5, 9), span(15, 21), span(25, 31), span(15, 21), span(5, 9)} {
		for cell, depth := range []int{0, 0, -50, -90, 30, 20, 10, -20, 60, 60, 40, 30} {
			want := span(depth+tide.Low, depth+tide.High)
			if s, e := chart.Water(c, cell, tick); s != want || e != api.OK {
				t.Errorf("Water(%d, %d) = %v, %d", cell, tick, s, e)
			}
		}
	}
}

// TestWaterInEachTick: the tide and the swell are those of the tick; without both the water is the depth.
func TestWaterInEachTick(t *testing.T) {
	for _, x := range []struct {
		cell, tick int
		want       api.Span
	}{
		{0, 0, span(0, 0)}, {1, 0, span(7, 7)}, {2, 0, span(-30, -30)}, {1, 1, span(6, 12)}, {2, 1, span(-31, -25)},
		{1, 2, span(107, 107)}, {3, 2, span(1100, 1100)}, {4, 2, span(-900, -900)}, {5, 3, span(11, 211)}, {4, 3, span(-1001, -801)},
	} {
		if s, e := chart.Water(swelling(), x.cell, x.tick); s != x.want || e != api.OK {
			t.Errorf("Water(%d, %d) = %v, %d", x.cell, x.tick, s, e)
		}
	}
}

func TestWaterInvalid(t *testing.T) {
	for _, x := range [][2]int{{-1, 0}, {6, 0}, {0, -1}, {0, 4}, {6, 4}, {-1, -1}} {
		if s, e := chart.Water(swelling(), x[0], x[1]); s != span(0, 0) || e != api.ErrArg {
			t.Errorf("Water(%v) = %v, %d", x, s, e)
		}
	}
}

// TestFloats is P1.5 about draughts that are just reached, and those that are just not.
func TestFloats(t *testing.T) {
	for _, x := range []struct {
		draught, cell, tick int
		sure, may           bool
	}{
		{14, 6, 0, true, true}, {15, 6, 0, true, true}, {16, 6, 0, false, true}, {19, 6, 0, false, true}, {20, 6, 0, false, false},
		{35, 6, 2, true, true}, {36, 6, 2, false, true}, {41, 6, 2, false, true}, {42, 6, 2, false, false},
		{1, 2, 2, false, false}, {1, 3, 0, false, false}, {100, 8, 2, false, false}, {91, 8, 2, false, true}, {85, 8, 2, true, true},
		{5, 0, 4, true, true}, {9, 0, 4, false, true}, {10, 0, 4, false, false}, {5, 7, 2, true, true}, {11, 7, 2, false, true},
	} {
		if sure, may := mustFloats(t, sea(), x.draught, x.cell, x.tick); sure != x.sure || may != x.may {
			t.Errorf("Floats(%d, %d, %d) = %v, %v", x.draught, x.cell, x.tick, sure, may)
		}
	}
}

// TestFloatsWithOneHeight: where the span of the tide has one height, what may be is sure.
func TestFloatsWithOneHeight(t *testing.T) {
	for _, x := range []struct {
		draught, cell, tick int
		floats              bool
	}{{7, 1, 0, true}, {8, 1, 0, false}, {1, 0, 0, false}, {100, 0, 2, true}, {100, 1, 2, true}, {70, 2, 2, true}, {71, 2, 2, false}} {
		if sure, may := mustFloats(t, swelling(), x.draught, x.cell, x.tick); sure != x.floats || may != x.floats {
			t.Errorf("Floats(%d, %d, %d) = %v, %v", x.draught, x.cell, x.tick, sure, may)
		}
	}
}

// TestFloatsWithEachHeight holds Floats against each height by itself, and narrower spans and lesser draughts against
// what is so (P1.12).
func TestFloatsWithEachHeight(t *testing.T) {
	for _, c := range lots(5, 40, 4, 4, 4) {
		for cell := range c.Depth {
			for tick := range c.Tide {
				floatsAt(t, c, cell, tick)
			}
		}
	}
}

func floatsAt(t *testing.T, c api.Chart, cell, tick int) {
	t.Helper()
	narrow := copied(c)
	if s := &narrow.Tide[tick]; s.Low < s.High {
		s.Low++
	}
	lesser := true
	for draught := 1; draught <= api.MaxDraught; draught++ {
		sure, may := mustFloats(t, c, draught, cell, tick)
		if s, m := afloat(c, draught, cell, tick); s != sure || m != may {
			t.Fatalf("Floats(%v, %d, %d, %d) = %v, %v", c, draught, cell, tick, sure, may)
		}
		if sure && !lesser {
			t.Fatalf("Floats(%v, %d, %d, %d), but not with a lesser draught", c, draught, cell, tick)
		}
		if s, m := mustFloats(t, narrow, draught, cell, tick); sure && !s || !may && m {
			t.Fatalf("Floats(%v, %d, %d, %d) = %v, %v; with a narrower span %v, %v", c, draught, cell, tick, sure, may, s, m)
		}
		lesser = sure
	}
}
