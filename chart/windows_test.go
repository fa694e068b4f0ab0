package chart_test

import (
	"math/rand/v2"
	"slices"
	"testing"

	"coble/api"
)

// TestWindows is P1.10.
func TestWindows(t *testing.T) {
	for i, x := range []struct {
		r         api.Ramp
		sure, may []api.Span
	}{
		{api.Ramp{Cell: 6, Draught: 18, Most: 200, Surf: 5}, []api.Span{span(1, 3)}, []api.Span{span(0, 4)}},
		{api.Ramp{Cell: 6, Draught: 15, Most: 200, Surf: 5}, []api.Span{span(0, 4)}, []api.Span{span(0, 4)}},
		{api.Ramp{Cell: 6, Draught: 20, Most: 200, Surf: 5}, []api.Span{span(1, 3)}, []api.Span{span(1, 3)}},
		{api.Ramp{Cell: 3, Draught: 1, Most: 200, Surf: 100}, nil, nil},
		{api.Ramp{Cell: 8, Draught: 1, Most: 200, Surf: 4}, nil, nil},
		{api.Ramp{Cell: 8, Draught: 1, Most: 200, Surf: 5}, []api.Span{span(0, 4)}, []api.Span{span(0, 4)}},
		{api.Ramp{Cell: 8, Draught: 1, Least: 10, Most: 14, Surf: 9}, []api.Span{span(0, 0), span(4, 4)}, []api.Span{span(0, 0), span(4, 4)}},
		{api.Ramp{Cell: 8, Draught: 1, Least: 11, Most: 14, Surf: 9}, nil, []api.Span{span(0, 0), span(4, 4)}},
		{api.Ramp{Cell: 8, Draught: 1, Least: 10, Most: 13, Surf: 9}, nil, []api.Span{span(0, 0), span(4, 4)}},
		{api.Ramp{Cell: 8, Draught: 1, Least: 14, Most: 20, Surf: 9}, nil, []api.Span{span(0, 1), span(3, 4)}},
		{api.Ramp{Cell: 8, Draught: 1, Least: 15, Most: 19, Surf: 9}, nil, nil},
		{api.Ramp{Cell: 8, Draught: 1, Least: 14, Most: 35, Surf: 9}, []api.Span{span(1, 1), span(3, 3)}, []api.Span{span(0, 4)}},
		{api.Ramp{Cell: 8, Draught: 1, Least: 14, Most: 36, Surf: 9}, []api.Span{span(1, 3)}, []api.Span{span(0, 4)}},
		{api.Ramp{Cell: 6, Draught: 18, Least: 0, Most: 12, Surf: 5}, nil, nil},
		{api.Ramp{Cell: 6, Draught: 18, Least: 0, Most: 13, Surf: 5}, nil, []api.Span{span(0, 0), span(4, 4)}},
	} {
		if sure, may := mustWindows(t, sea(), x.r); !slices.Equal(sure, x.sure) || !slices.Equal(may, x.may) {
			t.Errorf("%d: Windows = %v, %v", i, sure, may)
		}
	}
}

// TestWindowsOfOneHeight: where the span of the tide has one height, both results are the same.
func TestWindowsOfOneHeight(t *testing.T) {
	c := still(2, 1, 3, 7)
	for tick, h := range []int{5, 4, 5, 6, 3, 9, 6} {
		c.Tide[tick], c.Swell[tick] = span(h, h), tick
	}
	want := []api.Span{span(0, 0), span(2, 3)}
	sure, may := mustWindows(t, c, api.Ramp{Cell: 1, Draught: 6, Least: 5, Most: 8, Surf: 5})
	if !slices.Equal(sure, want) || !slices.Equal(may, want) {
		t.Errorf("Windows = %v, %v", sure, may)
	}
}

// TestWindowsOfOneTick: a chart of one tick, and one of which each tick is a window.
func TestWindowsOfOneTick(t *testing.T) {
	for _, ticks := range []int{1, 2, api.MaxTicks} {
		want := []api.Span{span(0, ticks-1)}
		sure, may := mustWindows(t, still(1, 1, 1, ticks), api.Ramp{Draught: 1})
		if !slices.Equal(sure, want) || !slices.Equal(may, want) {
			t.Errorf("%d ticks: Windows = %v, %v", ticks, sure, may)
		}
		sure, may = mustWindows(t, still(1, 1, 0, ticks), api.Ramp{Draught: 1})
		if len(sure)+len(may) > 0 {
			t.Errorf("%d ticks: Windows on land = %v, %v", ticks, sure, may)
		}
	}
}

// opens asks each height of a tick by itself whether a boat can be launched.
func opens(c api.Chart, r api.Ramp, tick int) (sure, may bool) {
	sure = true
	for h := c.Tide[tick].Low; h <= c.Tide[tick].High; h++ {
		if h >= r.Least && h <= r.Most && c.Swell[tick] <= r.Surf && floatsWith(c, r.Draught, r.Cell, tick, h) {
			may = true
		} else {
			sure = false
		}
	}
	return sure, may
}

// ticksOf returns for each tick whether it lies in one of the spans; they must ascend, with a gap between them.
func ticksOf(t *testing.T, c api.Chart, l []api.Span) []bool {
	t.Helper()
	in := make([]bool, len(c.Tide))
	next := 0
	for i, s := range l {
		if s.Low < next || i > 0 && s.Low == next || s.Low > s.High || s.High >= len(in) {
			t.Fatalf("the spans %v", l)
		}
		for tick := s.Low; tick <= s.High; tick++ {
			in[tick] = true
		}
		next = s.High + 1
	}
	return in
}

// someRamps returns charts with ramps that look random and are the same in every run.
func someRamps(visit func(c api.Chart, r api.Ramp)) {
	r := rand.New(rand.NewPCG(8, 8))
	for _, c := range lots(8, 400, 2, 2, 9) {
		least := r.IntN(20)
		visit(c, api.Ramp{Cell: r.IntN(len(c.Depth)), Draught: 1 + r.IntN(25), Least: least, Most: least + r.IntN(12), Surf: r.IntN(4)})
	}
}

// TestWindowsWithEachHeight is P1.10 and P1.15: with each height of the tide by itself.
func TestWindowsWithEachHeight(t *testing.T) {
	someRamps(func(c api.Chart, r api.Ramp) {
		l, m := mustWindows(t, c, r)
		sure, may := ticksOf(t, c, l), ticksOf(t, c, m)
		for tick := range c.Tide {
			if s, m := opens(c, r, tick); s != sure[tick] || m != may[tick] {
				t.Fatalf("Windows(%v, %v) in %d: %v, %v, want %v, %v", c, r, tick, sure[tick], may[tick], s, m)
			}
			if sure[tick] && !may[tick] {
				t.Fatalf("Windows(%v, %v) in %d: sure, but not possible", c, r, tick)
			}
		}
		for _, s := range l {
			if !slices.ContainsFunc(m, func(x api.Span) bool { return x.Low <= s.Low && s.High <= x.High }) {
				t.Fatalf("Windows(%v, %v) = %v, %v", c, r, l, m)
			}
		}
	})
}

// TestWiderRamps is P1.15: with a greater Surf, a lesser Least or a greater Most no tick is lost.
func TestWiderRamps(t *testing.T) {
	someRamps(func(c api.Chart, r api.Ramp) {
		l, m := mustWindows(t, c, r)
		sure, may := ticksOf(t, c, l), ticksOf(t, c, m)
		surf, least, most := r, r, r
		surf.Surf++
		least.Least /= 2
		most.Most++
		for _, wider := range []api.Ramp{surf, least, most} {
			l, m := mustWindows(t, c, wider)
			if !allIn(sure, ticksOf(t, c, l)) || !allIn(may, ticksOf(t, c, m)) {
				t.Fatalf("Windows(%v, %v): ticks are lost with %v", c, r, wider)
			}
		}
	})
}

// allIn reports whether b is so wherever a is.
func allIn(a, b []bool) bool {
	for i := range a {
		if a[i] && !b[i] {
			return false
		}
	}
	return true
}
