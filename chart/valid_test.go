package chart_test

import (
	"math"
	"testing"

	"coble/api"
	"coble/chart"
)

// invalid returns charts that differ from valid ones in one or more things, by what is wrong with them.
func invalid() map[string]api.Chart {
	l := map[string]api.Chart{"nothing": {}}
	add := func(name string, change func(c *api.Chart)) {
		c := sea()
		change(&c)
		l[name] = c
	}
	add("too few columns", func(c *api.Chart) { c.Wide = 3 })
	add("too many columns", func(c *api.Chart) { c.Wide = 5 })
	add("too few rows", func(c *api.Chart) { c.High = 2 })
	add("no side", func(c *api.Chart) { c.Wide, c.High, c.Depth = 0, 0, nil })
	add("no column", func(c *api.Chart) { c.Wide, c.Depth = 0, nil })
	add("no row", func(c *api.Chart) { c.High, c.Depth = 0, nil })
	add("sides below 0", func(c *api.Chart) { c.Wide, c.High = -4, -3 })
	add("wide", func(c *api.Chart) { c.Wide, c.High, c.Depth = 13, 1, make([]int, 13) })
	add("high", func(c *api.Chart) { c.Wide, c.High, c.Depth = 1, 13, make([]int, 13) })
	add("twelve in one row", func(c *api.Chart) { c.Wide, c.High = -12, -1 })
	add("huge sides", func(c *api.Chart) { c.Wide, c.High, c.Depth = 1<<32, 1<<32, nil })
	add("the hugest sides", func(c *api.Chart) { c.Wide, c.High, c.Depth = math.MinInt, math.MaxInt, nil })
	add("no depths", func(c *api.Chart) { c.Depth = nil })
	add("no depths but empty", func(c *api.Chart) { c.Depth = []int{} })
	add("a depth less", func(c *api.Chart) { c.Depth = c.Depth[:11] })
	add("a depth more", func(c *api.Chart) { c.Depth = append(c.Depth, 0) })
	add("no ticks", func(c *api.Chart) { c.Tide, c.Swell = nil, nil })
	add("no ticks but empty", func(c *api.Chart) { c.Tide, c.Swell = []api.Span{}, []int{} })
	add("a swell less", func(c *api.Chart) { c.Swell = c.Swell[:4] })
	add("a swell more", func(c *api.Chart) { c.Swell = append(c.Swell, 0) })
	add("a tide less", func(c *api.Chart) { c.Tide = c.Tide[:4] })
	add("a tide more", func(c *api.Chart) { c.Tide = append(c.Tide, span(0, 0)) })
	add("no swell", func(c *api.Chart) { c.Swell = nil })
	add("all wrong", func(c *api.Chart) { c.Wide, c.Depth[0], c.Tide[0].Low, c.Swell[0] = 0, 2000, -1, -1 })
	l["a tick too many"] = still(2, 2, 5, api.MaxTicks+1)
	for i := range sea().Depth {
		add("deep "+string(rune('a'+i)), func(c *api.Chart) { c.Depth[i] = api.MaxDepth + 1 })
		add("dry "+string(rune('a'+i)), func(c *api.Chart) { c.Depth[i] = -api.MaxDepth - 1 })
	}
	for i := range sea().Tide {
		tick := " in " + string(rune('0'+i))
		add("tide below 0"+tick, func(c *api.Chart) { c.Tide[i].Low = -1 })
		add("tide too high"+tick, func(c *api.Chart) { c.Tide[i].High = api.MaxTide + 1 })
		add("tide of no height"+tick, func(c *api.Chart) { c.Tide[i] = span(21, 20) })
		add("tide all too high"+tick, func(c *api.Chart) { c.Tide[i] = span(api.MaxTide+1, api.MaxTide+1) })
		add("tide all below 0"+tick, func(c *api.Chart) { c.Tide[i] = span(-1, -1) })
		add("swell below 0"+tick, func(c *api.Chart) { c.Swell[i] = -1 })
		add("swell too high"+tick, func(c *api.Chart) { c.Swell[i] = api.MaxSwell + 1 })
	}
	return l
}

// TestCheck is P1.1.
func TestCheck(t *testing.T) {
	for name, c := range invalid() {
		if e := chart.Check(c); e != api.ErrChart {
			t.Errorf("%s: Check: %d", name, e)
		}
	}
	for wide := 1; wide <= api.MaxSide; wide++ {
		for high := 1; high <= api.MaxSide; high++ {
			if e := chart.Check(still(wide, high, 0, wide)); e != api.OK {
				t.Errorf("%d x %d: Check: %d", wide, high, e)
			}
		}
	}
	for _, c := range []api.Chart{sea(), still(1, 1, 0, 1), still(2, 3, -1000, 60), still(12, 12, 1000, 60)} {
		if e := chart.Check(c); e != api.OK {
			t.Errorf("Check(%v): %d", c, e)
		}
	}
}

// TestCheckBounds is P1.1 for numbers that are just valid, each by itself.
func TestCheckBounds(t *testing.T) {
	for i, change := range []func(c *api.Chart){
		func(c *api.Chart) { c.Depth[0] = api.MaxDepth },
		func(c *api.Chart) { c.Depth[11] = -api.MaxDepth },
		func(c *api.Chart) { c.Tide[0] = span(0, api.MaxTide) },
		func(c *api.Chart) { c.Tide[4] = span(0, 0) },
		func(c *api.Chart) { c.Tide[2] = span(api.MaxTide, api.MaxTide) },
		func(c *api.Chart) { c.Swell[0] = 0 },
		func(c *api.Chart) { c.Swell[4] = api.MaxSwell },
		func(c *api.Chart) { c.Tide, c.Swell = c.Tide[:1], c.Swell[:1] },
	} {
		c := sea()
		change(&c)
		if e := chart.Check(c); e != api.OK {
			t.Errorf("%d: Check: %d", i, e)
		}
	}
}

// invalidRamps returns ramps that are not valid for C.
func invalidRamps() []api.Ramp {
	return []api.Ramp{
		{Cell: -1, Draught: 1}, {Cell: 12, Draught: 1}, {Cell: math.MaxInt, Draught: 1},
		{Draught: 0}, {Draught: -1}, {Draught: 101}, {Draught: math.MinInt},
		{Draught: 1, Least: -1}, {Draught: 1, Least: -1, Most: 20}, {Draught: 1, Least: 2, Most: 1},
		{Draught: 1, Least: 201, Most: 201}, {Draught: 1, Most: 201}, {Draught: 1, Most: -1}, {Draught: 1, Least: -2, Most: -1},
		{Draught: 1, Surf: -1}, {Draught: 1, Surf: 101}, {Draught: 1, Most: math.MaxInt, Surf: math.MaxInt},
		{Cell: 12, Draught: 0, Least: 5, Most: 4, Surf: -1},
	}
}

// TestRampInvalid: ErrRamp, but ErrChart if the chart is not valid either.
func TestRampInvalid(t *testing.T) {
	for _, r := range invalidRamps() {
		if sure, may, e := chart.Windows(sea(), r); e != api.ErrRamp || len(sure)+len(may) > 0 {
			t.Errorf("Windows(%v) = %v, %v, %d", r, sure, may, e)
		}
		for name, c := range invalid() {
			if _, _, e := chart.Windows(c, r); e != api.ErrChart {
				t.Errorf("%s: Windows(%v): %d", name, r, e)
			}
		}
	}
	for _, r := range []api.Ramp{
		{Cell: 0, Draught: 1}, {Cell: 11, Draught: 100}, {Draught: 1, Most: 200}, {Draught: 1, Least: 200, Most: 200},
		{Draught: 1, Least: 7, Most: 7}, {Draught: 1, Surf: 100}, {Draught: 1, Least: 0, Most: 0},
	} {
		mustWindows(t, sea(), r)
	}
}
