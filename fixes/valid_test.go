package fixes_test

import (
	"math"
	"slices"
	"strconv"
	"testing"

	"coble/api"
	"coble/fixes"
)

// badCharts returns distresses whose chart is not valid, by what is wrong with it.
func badCharts() map[string]api.Distress {
	l := map[string]api.Distress{"nothing": {}}
	for name, change := range map[string]func(c *api.Chart){
		"too wide":      func(c *api.Chart) { c.Wide = 5 },
		"no rows":       func(c *api.Chart) { c.High = 0 },
		"too deep":      func(c *api.Chart) { c.Depth[3] = 1001 },
		"no ticks":      func(c *api.Chart) { c.Tide, c.Swell = nil, nil },
		"falling tide":  func(c *api.Chart) { c.Tide[2] = span(3, 2) },
		"too much tide": func(c *api.Chart) { c.Tide[4].High = 201 },
		"swell":         func(c *api.Chart) { c.Swell[4] = 101 },
		"little swell":  func(c *api.Chart) { c.Swell = c.Swell[:4] },
	} {
		d := copied(first())
		change(&d.Chart)
		l[name] = d
	}
	return l
}

// named collects reports by what is wrong with them.
type named map[string]api.Report

func (l named) add(name string, r api.Report) { l[name+" "+strconv.Itoa(len(l))] = r }

// goodReports returns a report of each kind that is valid for D.
func goodReports() (ring, beam, strip, out api.Report) {
	ring = api.Report{Kind: api.Ring, A: 1, B: 2, Weight: 1}
	beam = api.Report{Kind: api.Beam, A: 1, D: 1, Weight: 1}
	return ring, beam, columns(0, 1, 2), api.Report{Kind: api.Clear, A: 1, Weight: 1}
}

// badReports returns reports that are not valid for D, by what is wrong with them.
func badReports() named {
	l := named{"nothing": {}}
	ring, beam, strip, out := goodReports()
	for _, good := range []api.Report{ring, beam, strip, out} {
		for n := range 5 {
			tick, cell, kind, weight, certain := good, good, good, good, good
			tick.Tick = []int{-1, 5, 6, math.MaxInt, math.MinInt}[n]
			cell.Cell = []int{-1, 12, 13, math.MaxInt, math.MinInt}[n]
			kind.Kind = []int{-1, 0, 5, math.MaxInt, math.MinInt}[n]
			weight.Weight = []int{-1, 0, 101, math.MaxInt, math.MinInt}[n]
			certain.Sure, certain.Weight = true, []int{-1, 1, 100, math.MaxInt, math.MinInt}[n]
			l.add("tick", tick)
			l.add("cell", cell)
			l.add("kind", kind)
			l.add("weight", weight)
			l.add("sure with a weight", certain)
		}
	}
	badSpans(l)
	badNumbers(l)
	badBeams(l)
	return l
}

// badSpans adds rings and strips whose bounds are not valid.
func badSpans(l named) {
	ring, _, strip, _ := goodReports()
	for _, s := range []api.Span{
		span(-1, 2), span(2, 1), span(1, 201), span(201, 201), span(201, 200), span(-2, -1),
		span(math.MinInt, math.MaxInt), span(math.MaxInt, math.MinInt), span(0, math.MaxInt), span(math.MinInt, 0),
	} {
		a, b, c := ring, strip, strip
		a.A, a.B = s.Low, s.High
		b.A, b.B = s.Low, s.High
		c.C, c.D = s.Low, s.High
		l.add("ring", a)
		l.add("rows", b)
		l.add("columns", c)
	}
}

// badNumbers adds reports with numbers that must be 0 or are too far.
func badNumbers(l named) {
	ring, _, strip, out := goodReports()
	for _, far := range []int{-1, -200, math.MinInt, 1, 200, math.MaxInt} {
		for i := range 6 {
			r := []api.Report{ring, ring, out, out, out, strip}[i]
			*[]*int{&r.C, &r.D, &r.B, &r.C, &r.D, &r.Cell}[i] = far
			l.add("what must be 0", r)
		}
	}
	for _, far := range []int{-1, 201, math.MaxInt, math.MinInt} {
		r := out
		r.A = far
		l.add("clear", r)
	}
}

// badBeams adds beams that point nowhere, turn to the right or half round, or point too far.
func badBeams(l named) {
	for _, x := range [][4]int{
		{0, 0, 1, 0}, {1, 0, 0, 0}, {0, 0, 0, 0}, {1, 0, -1, 0}, {2, 1, -4, -2}, {0, 1, 0, -3},
		{0, 1, 1, 0}, {1, 0, 1, -1}, {200, 200, 200, 199}, {1, 0, -200, -1},
		{201, 0, 0, 1}, {-201, 0, 0, -1}, {1, 0, 201, 1}, {1, 201, 0, 201}, {0, -201, 1, 0}, {1, 0, 0, 201}, {1, 0, -201, 0},
		{1, 0, 1, math.MaxInt}, {math.MaxInt, math.MaxInt, math.MinInt, math.MaxInt}, {math.MinInt, 0, 0, math.MinInt},
		{1 << 32, 0, 0, 1 << 31}, {1, 0, 1 << 40, 1}, {-1 << 40, 0, 0, -1},
	} {
		_, r, _, _ := goodReports()
		r.A, r.B, r.C, r.D = x[0], x[1], x[2], x[3]
		l.add("beam", r)
	}
}

// badDistresses returns distresses with a valid chart that are not valid, by what is wrong with them.
func badDistresses() map[string]api.Distress {
	l := map[string]api.Distress{}
	for _, n := range []int{0, -1, 101, math.MaxInt, math.MinInt} {
		d := first()
		d.Draught = n
		l["draught "+strconv.Itoa(n)] = d
	}
	for _, n := range []int{-1, 6, math.MaxInt, math.MinInt} {
		d := first()
		d.Pace = n
		l["pace "+strconv.Itoa(n)] = d
	}
	d := first()
	d.Reports = slices.Repeat([]api.Report{off(0, 0)}, 13)
	l["13 reports"] = d
	for name, r := range badReports() {
		l["a report alone: "+name] = only(with(first(), r), 3)
		l["the last report: "+name] = with(first(), r)
		l["the first report: "+name] = only(with(first(), r), 3, 0, 1)
		l["the 12th report: "+name] = with(with(first(), slices.Repeat([]api.Report{off(0, 0)}, 8)...), r)
	}
	return l
}

// TestCheckInvalid is P3.1 of what is not valid.
func TestCheckInvalid(t *testing.T) {
	for name, d := range badCharts() {
		if e := fixes.Check(d); e != api.ErrChart {
			t.Errorf("%s: Check: %d", name, e)
		}
		d.Draught, d.Pace, d.Reports = 0, 6, []api.Report{{}}
		if e := fixes.Check(d); e != api.ErrChart {
			t.Errorf("%s, and the distress: Check: %d", name, e)
		}
	}
	for name, d := range badDistresses() {
		if e := fixes.Check(d); e != api.ErrReports {
			t.Errorf("%s: Check: %d", name, e)
		}
	}
}

// TestCheckReports is P3.1 of reports that are just valid.
func TestCheckReports(t *testing.T) {
	for i, r := range []api.Report{
		at(0, 0), at(4, 11), sure(at(4, 11)), weighed(at(0, 0), 100), {Kind: api.Ring, A: 200, B: 200, Weight: 1}, {Kind: api.Ring, B: 200, Weight: 1},
		off(0, 0), sure(off(4, 11)), weighed(off(0, 0), 100), {Kind: api.Clear, A: 200, Weight: 1},
		columns(0, 0, 0), columns(4, 0, 200), columns(4, 200, 200), sure(columns(0, 0, 0)), {Kind: api.Strip, Weight: 100}, {Kind: api.Strip, A: 200, B: 200, C: 4, D: 9, Weight: 1},
		{Kind: api.Beam, Cell: 11, Tick: 4, A: 1, C: 1, Sure: true}, {Kind: api.Beam, A: 1, D: 1, Weight: 100}, {Kind: api.Beam, A: 1, C: 200, Weight: 1},
		{Kind: api.Beam, A: 2, B: 3, C: 4, D: 6, Weight: 1}, {Kind: api.Beam, A: -3, B: -2, C: -200, D: -199, Weight: 1}, {Kind: api.Beam, B: 1, D: 200, Weight: 1},
		{Kind: api.Beam, A: 200, B: -200, C: 200, D: 200, Weight: 1}, {Kind: api.Beam, A: -200, B: 200, C: -200, D: -200, Weight: 1},
		{Kind: api.Beam, A: 200, B: 1, C: -200, Weight: 1}, {Kind: api.Beam, A: 200, B: 199, C: 200, D: 200, Weight: 1}, {Kind: api.Beam, B: -1, C: 1, Weight: 1},
	} {
		if e := fixes.Check(with(first(), r)); e != api.OK {
			t.Errorf("%d: Check of %v: %d", i, r, e)
		}
	}
}

// TestCheck is P3.1 of distresses that are just valid.
func TestCheck(t *testing.T) {
	for i, change := range []func(d *api.Distress){
		func(d *api.Distress) {},
		func(d *api.Distress) { d.Draught = 1 },
		func(d *api.Distress) { d.Draught = api.MaxDraught },
		func(d *api.Distress) { d.Pace = 0 },
		func(d *api.Distress) { d.Pace = api.MaxPace },
		func(d *api.Distress) { d.Reports = nil },
		func(d *api.Distress) { d.Reports = []api.Report{} },
		func(d *api.Distress) { d.Reports = slices.Repeat(d.Reports, 4) },
	} {
		d := first()
		change(&d)
		if e := fixes.Check(d); e != api.OK {
			t.Errorf("%d: Check: %d", i, e)
		}
	}
	for _, d := range []api.Distress{second(), still(1, 1, 0, 1, 0), still(12, 12, 1000, 60, 5), still(12, 1, -1000, 2, 3)} {
		if e := fixes.Check(d); e != api.OK {
			t.Errorf("Check(%v): %d", d, e)
		}
	}
}
