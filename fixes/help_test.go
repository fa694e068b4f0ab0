package fixes_test

import (
	"math/rand/v2"
	"slices"
	"testing"

	"coble/api"
	"coble/fixes"
)

func span(low, high int) api.Span { return api.Span{Low: low, High: high} }

// first is the distress D of the chapter's examples.
func first() api.Distress {
	return api.Distress{
		Chart: api.Chart{
			Wide: 4, High: 3, Depth: []int{0, 0, -50, -90, 30, 20, 10, -20, 60, 60, 40, 30},
			Tide:  []api.Span{span(10, 14), span(20, 26), span(30, 36), span(20, 26), span(10, 14)},
			Swell: []int{5, 5, 5, 5, 5},
		},
		Draught: 5, Pace: 1,
		Reports: []api.Report{
			{Kind: api.Ring, A: 1, B: 2, Weight: 2},
			{Tick: 1, Kind: api.Beam, Cell: 8, A: 1, B: -1, C: 1, Weight: 4},
			{Tick: 2, Kind: api.Strip, A: 2, B: 2, D: 3, Weight: 1},
		},
	}
}

// second is E of the chapter's examples.
func second() api.Distress {
	return with(first(), api.Report{Tick: 1, Kind: api.Ring, Cell: 11, Weight: 3})
}

// with returns a distress with more reports.
func with(d api.Distress, more ...api.Report) api.Distress {
	d.Reports = slices.Concat(d.Reports, more)
	return d
}

// without returns a distress without one of its reports.
func without(d api.Distress, i int) api.Distress {
	d.Reports = slices.Delete(slices.Clone(d.Reports), i, i+1)
	return d
}

// only returns a distress with some of its reports alone.
func only(d api.Distress, reports ...int) api.Distress {
	var l []api.Report
	for _, i := range reports {
		l = append(l, d.Reports[i])
	}
	d.Reports = l
	return d
}

// still is a distress without reports on water of one depth, without tide and swell.
func still(wide, high, depth, ticks, pace int) api.Distress {
	c := api.Chart{
		Wide: wide, High: high, Depth: slices.Repeat([]int{depth}, wide*high),
		Tide: make([]api.Span, ticks), Swell: make([]int, ticks),
	}
	return api.Distress{Chart: c, Draught: 1, Pace: pace}
}

// columns is a report that the casualty is in one of some columns in a tick.
func columns(tick, from, to int) api.Report {
	return api.Report{Tick: tick, Kind: api.Strip, B: 200, C: from, D: to, Weight: 1}
}

// at is a report that the casualty is in a cell in a tick.
func at(tick, cell int) api.Report {
	return api.Report{Tick: tick, Kind: api.Ring, Cell: cell, Weight: 1}
}

// off is a report that the casualty is not in a cell in a tick.
func off(tick, cell int) api.Report {
	return api.Report{Tick: tick, Kind: api.Clear, Cell: cell, Weight: 1}
}

// sure returns a report that is sure.
func sure(r api.Report) api.Report {
	r.Sure, r.Weight = true, 0
	return r
}

// weighed returns a report with another weight.
func weighed(r api.Report, weight int) api.Report {
	r.Weight = weight
	return r
}

func copied(d api.Distress) api.Distress {
	c := &d.Chart
	c.Depth, c.Tide, c.Swell = slices.Clone(c.Depth), slices.Clone(c.Tide), slices.Clone(c.Swell)
	d.Reports = slices.Clone(d.Reports)
	return d
}

// cells returns the numbers of all cells.
func cells(d api.Distress) []int { return upTo(len(d.Chart.Depth)) }

// upTo returns the numbers from 0 that are less than n.
func upTo(n int) []int {
	var l []int
	for i := range n {
		l = append(l, i)
	}
	return l
}

// puzzles returns distresses that look random and are the same in every run. Many cells only float with some height of
// the tide, and weights often are the same.
func puzzles(seed uint64, n, wide, high, ticks, reports int) []api.Distress {
	r := rand.New(rand.NewPCG(seed, 3))
	var l []api.Distress
	for range n {
		d := still(1+r.IntN(wide), 1+r.IntN(high), 0, 1+r.IntN(ticks), []int{0, 1, 1, 1, 2, 3}[r.IntN(6)])
		d.Draught = 1 + r.IntN(6)
		for i := range d.Chart.Depth {
			d.Chart.Depth[i] = r.IntN(12) - 2
		}
		for i := range d.Chart.Tide {
			low := r.IntN(5)
			d.Chart.Tide[i], d.Chart.Swell[i] = span(low, low+r.IntN(4)), r.IntN(3)
		}
		for range r.IntN(reports + 1) {
			d.Reports = append(d.Reports, someReport(r, d))
		}
		l = append(l, d)
	}
	return l
}

func someReport(r *rand.Rand, d api.Distress) api.Report {
	x := api.Report{Tick: r.IntN(len(d.Chart.Tide)), Kind: 1 + r.IntN(4), Cell: r.IntN(len(d.Chart.Depth)), Weight: 1 + r.IntN(3)}
	switch x.Kind {
	case api.Ring:
		x.A = r.IntN(3)
		x.B = x.A + r.IntN(2)
	case api.Beam:
		x.A, x.B, x.C, x.D = someBeam(r)
	case api.Strip:
		x.Cell, x.A, x.C = 0, r.IntN(d.Chart.High), r.IntN(d.Chart.Wide)
		x.B, x.D = x.A+r.IntN(3), x.C+r.IntN(2)
	case api.Clear:
		x.A = r.IntN(2)
	}
	if r.IntN(5) == 0 {
		x = sure(x)
	}
	return x
}

// someBeam tries directions until there are two that are valid.
func someBeam(r *rand.Rand) (a, b, c, d int) {
	for {
		a, b, c, d = r.IntN(7)-3, r.IntN(7)-3, r.IntN(7)-3, r.IntN(7)-3
		if turn := a*d - b*c; turn > 0 || turn == 0 && a*c+b*d > 0 {
			return a, b, c, d
		}
	}
}

// mustWhere and the others below return results that have to come without an error.
func mustWhere(t *testing.T, d api.Distress, tick int) []int {
	t.Helper()
	l, e := fixes.Where(d, tick)
	if e != api.OK || len(l) == 0 {
		t.Fatalf("Where(%v, %d) = %v, %d", d, tick, l, e)
	}
	return l
}

func mustCourse(t *testing.T, d api.Distress) []int {
	t.Helper()
	l, e := fixes.Course(d)
	if e != api.OK || len(l) != len(d.Chart.Tide) {
		t.Fatalf("Course(%v) = %v, %d", d, l, e)
	}
	return l
}

func mustDoubt(t *testing.T, d api.Distress) (int, []int) {
	t.Helper()
	n, l, e := fixes.Doubt(d)
	if e != api.OK || len(l) != len(d.Chart.Tide) {
		t.Fatalf("Doubt(%v) = %d, %v, %d", d, n, l, e)
	}
	return n, l
}

func mustWithin(t *testing.T, d api.Distress, tick, doubt int) []int {
	t.Helper()
	l, e := fixes.Within(d, tick, doubt)
	if e != api.OK {
		t.Fatalf("Within(%v, %d, %d) = %v, %d", d, tick, doubt, l, e)
	}
	return l
}

// has reports whether all of b are in a.
func has(a, b []int) bool {
	return !slices.ContainsFunc(b, func(x int) bool { return !slices.Contains(a, x) })
}
