package fixes_test

import (
	"math"
	"math/rand/v2"
	"reflect"
	"slices"
	"testing"

	"coble/api"
	"coble/fixes"
)

// asked is what a function answers: whether all its results but the error are zero values, and the error.
type asked struct {
	name string
	zero bool
	e    api.Errno
}

// ask calls all functions but Check.
func ask(d api.Distress, tick, cell, doubt int) []asked {
	where, e1 := fixes.Where(d, tick)
	course, e2 := fixes.Course(d)
	n, best, e3 := fixes.Doubt(d)
	within, e4 := fixes.Within(d, tick, doubt)
	conflict, e5 := fixes.Conflict(d)
	struck, e6 := fixes.Struck(d, tick, cell)
	sources, e7 := fixes.Sources(d)
	return []asked{
		{"Where", len(where) == 0, e1}, {"Course", len(course) == 0, e2}, {"Doubt", n == 0 && len(best) == 0, e3},
		{"Within", len(within) == 0, e4}, {"Conflict", len(conflict) == 0, e5}, {"Struck", len(struck) == 0, e6}, {"Sources", len(sources) == 0, e7},
	}
}

// allAnswer: all functions return one error and nothing else, whatever comes behind what is not valid.
func allAnswer(t *testing.T, name string, d api.Distress, want api.Errno) {
	t.Helper()
	for _, x := range [][3]int{{1, 5, 3}, {-1, 12, 1201}, {5, -1, -1}} {
		for _, a := range ask(d, x[0], x[1], x[2]) {
			if a.e != want || !a.zero {
				t.Errorf("%s: %s of %v: %d, zero %v", name, a.name, x, a.e, a.zero)
			}
		}
	}
}

// TestErrorsInOrder is R1: ErrChart, then ErrReports, each also with errors that are named later.
func TestErrorsInOrder(t *testing.T) {
	for name, d := range badCharts() {
		allAnswer(t, name, d, api.ErrChart)
		d.Pace, d.Reports = -1, slices.Repeat([]api.Report{{}}, 13)
		allAnswer(t, name+", and the distress", d, api.ErrChart)
	}
	for name, d := range badDistresses() {
		allAnswer(t, name, d, api.ErrReports)
	}
}

// TestArguments: ErrArg for ticks, cells and doubts, also where there is no course.
func TestArguments(t *testing.T) {
	for i, d := range []api.Distress{first(), second(), dry(first(), cells(first())...)} {
		for _, tick := range []int{-1, 5, 6, 60, math.MaxInt, math.MinInt} {
			if l, e := fixes.Where(d, tick); e != api.ErrArg || len(l) > 0 {
				t.Errorf("%d: Where in %d = %v, %d", i, tick, l, e)
			}
			if l, e := fixes.Within(d, tick, 5); e != api.ErrArg || len(l) > 0 {
				t.Errorf("%d: Within in %d = %v, %d", i, tick, l, e)
			}
			if l, e := fixes.Struck(d, tick, 5); e != api.ErrArg || len(l) > 0 {
				t.Errorf("%d: Struck in %d = %v, %d", i, tick, l, e)
			}
		}
		for _, cell := range []int{-1, 12, 13, 144, math.MaxInt, math.MinInt} {
			if l, e := fixes.Struck(d, 1, cell); e != api.ErrArg || len(l) > 0 {
				t.Errorf("%d: Struck of %d = %v, %d", i, cell, l, e)
			}
		}
		for _, doubt := range []int{-1, 1201, math.MaxInt, math.MinInt} {
			if l, e := fixes.Within(d, 1, doubt); e != api.ErrArg || len(l) > 0 {
				t.Errorf("%d: Within with %d = %v, %d", i, doubt, l, e)
			}
		}
		for _, doubt := range []int{0, 1200} {
			mustWithin(t, d, 0, doubt)
			mustWithin(t, d, 4, doubt)
		}
		for _, x := range [][2]int{{0, 0}, {4, 11}} {
			if _, e := fixes.Struck(d, x[0], x[1]); e == api.ErrArg {
				t.Errorf("%d: Struck(%v): %d", i, x, e)
			}
		}
	}
}

// TestNoPanic is P1: for arguments of all kinds each function returns, and with an error nothing else.
func TestNoPanic(t *testing.T) {
	r := rand.New(rand.NewPCG(16, 16))
	odd := []int{math.MinInt, -1 << 32, -201, -200, -1, 0, 1, 2, 3, 4, 5, 6, 11, 12, 100, 101, 200, 201, 1200, 1201, 1 << 32, math.MaxInt}
	some := func() int { return odd[r.IntN(len(odd))] }
	near := func() int { return r.IntN(6) - 1 }
	start := []api.Distress{{}, first(), second(), still(1, 1, 5, 1, 0), still(3, 3, 5, 3, 2), {Chart: first().Chart}}
	for i := range 5000 {
		n := some
		if i%3 > 0 {
			n = near
		}
		d := copied(start[r.IntN(len(start))])
		if r.IntN(8) == 0 {
			d.Chart.Wide, d.Chart.High = n(), n()
		}
		if r.IntN(8) == 0 {
			d.Draught, d.Pace = n(), n()
		}
		for range r.IntN(3) {
			d = with(d, api.Report{Tick: n(), Kind: n(), Cell: n(), A: n(), B: n(), C: n(), D: n(), Sure: r.IntN(2) == 0, Weight: n()})
		}
		bad := fixes.Check(d)
		for _, a := range ask(d, n(), n(), n()) {
			if a.e != api.OK && !a.zero || bad != api.OK && a.e != bad || a.e == api.ErrChart && bad == api.OK || a.e == api.ErrReports && bad == api.OK {
				t.Fatalf("%s(%v): %d, zero %v, Check %d", a.name, d, a.e, a.zero, bad)
			}
		}
	}
}

// answers are all that the functions tell of D and E.
type answers struct {
	lists [8][]int
	doubt int
}

func tell(d, e api.Distress) answers {
	var a answers
	a.lists[0], _ = fixes.Where(d, 1)
	a.lists[1], _ = fixes.Course(d)
	a.doubt, a.lists[2], _ = fixes.Doubt(e)
	a.lists[3], _ = fixes.Within(e, 1, 3)
	a.lists[4], _ = fixes.Conflict(e)
	a.lists[5], _ = fixes.Struck(d, 1, 11)
	a.lists[6], _ = fixes.Sources(e)
	a.lists[7], _ = fixes.Sources(d)
	return a
}

// TestMemory is R4: no argument is changed, also behind its length, no result shares memory with anything, and nothing is
// kept between calls.
func TestMemory(t *testing.T) {
	build := func(d api.Distress) api.Distress {
		d.Chart.Depth = append(slices.Clone(d.Chart.Depth), 77)[:len(d.Chart.Depth)]
		d.Reports = append(slices.Clone(d.Reports), api.Report{Tick: 77})[:len(d.Reports)]
		return d
	}
	d, e := build(first()), build(second())
	want := tell(first(), second())
	for range 2 {
		a := tell(d, e)
		if !reflect.DeepEqual(a, want) {
			t.Fatalf("%v, but before %v", a, want)
		}
		for _, l := range a.lists {
			for i := range l[:cap(l)] {
				l[:cap(l)][i] = -9
			}
		}
		if !reflect.DeepEqual(d, first()) || !reflect.DeepEqual(e, second()) {
			t.Fatalf("the arguments are now %v, %v", d, e)
		}
		if d.Chart.Depth[:13][12] != 77 || d.Reports[:4][3].Tick != 77 || e.Reports[:5][4].Tick != 77 {
			t.Fatal("something behind the arguments was changed")
		}
	}
}

// TestNothingKept: a distress that is changed between two calls is asked anew.
func TestNothingKept(t *testing.T) {
	d := with(still(6, 1, 5, 3, 1), at(0, 1))
	for range 2 {
		for _, cell := range []int{1, 4} {
			d.Reports[0].Cell = cell
			if l := mustWhere(t, d, 0); !slices.Equal(l, []int{cell}) {
				t.Errorf("Where = %v", l)
			}
		}
		d.Chart.Depth[4] = -5
		if l, e := fixes.Where(d, 0); e != api.ErrNone || len(l) > 0 {
			t.Errorf("Where of what is dry = %v, %d", l, e)
		}
		d.Chart.Depth[4] = 5
	}
}

// TestNilAndEmpty is R3.
func TestNilAndEmpty(t *testing.T) {
	d := still(2, 2, 5, 2, 1)
	d.Reports = []api.Report{}
	for i, d := range []api.Distress{d, still(2, 2, 5, 2, 1)} {
		if l := mustWhere(t, d, 1); !slices.Equal(l, upTo(4)) {
			t.Errorf("%d: Where = %v", i, l)
		}
		if n, l := mustDoubt(t, d); n != 0 || !slices.Equal(l, []int{0, 0}) {
			t.Errorf("%d: Doubt = %d, %v", i, n, l)
		}
		if l, e := fixes.Conflict(d); e != api.ErrNone || len(l) > 0 {
			t.Errorf("%d: Conflict = %v, %d", i, l, e)
		}
		if l, e := fixes.Struck(d, 1, 3); e != api.ErrNone || len(l) > 0 {
			t.Errorf("%d: Struck = %v, %d", i, l, e)
		}
		if l, e := fixes.Sources(d); e != api.OK || len(l) > 0 {
			t.Errorf("%d: Sources = %v, %d", i, l, e)
		}
	}
}

// TestLargest: the largest chart with the longest time, the greatest pace and twelve reports. From a corner to the other
// one it is 17 steps, 4 ticks with the pace 5.
func TestLargest(t *testing.T) {
	d := still(12, 12, 5, 60, 5)
	for i := range 12 {
		d = with(d, at(4*i, 143*(i%2)))
	}
	if l := mustCourse(t, d); l[4] != 143 || l[8] != 0 || l[44] != 143 || l[59] != 0 {
		t.Errorf("Course = %v", l)
	}
	if l := mustWhere(t, d, 59); len(l) != 144 {
		t.Errorf("Where = %v", l)
	}
	d.Reports[11].Tick = 43
	if l, e := fixes.Conflict(d); e != api.OK || !slices.Equal(l, []int{10, 11}) {
		t.Errorf("Conflict = %v, %d", l, e)
	}
	if l, e := fixes.Struck(d, 59, 0); e != api.OK || !slices.Equal(l, []int{10, 11}) {
		t.Errorf("Struck = %v, %d", l, e)
	}
	if l, e := fixes.Sources(d); e != api.OK || !slices.Equal(l, []int{0, 0, 0, 0, 0, 0, 0, 0, 0, 0, 0, 1}) {
		t.Errorf("Sources = %v, %d", l, e)
	}
	if n, l := mustDoubt(t, d); n != 1 || l[36] != 143 || l[40] != 0 || l[59] != 0 {
		t.Errorf("Doubt = %d, %v", n, l)
	}
	if l := mustWithin(t, d, 40, 1); !slices.Contains(l, 0) || !slices.Contains(l, 143) {
		t.Errorf("Within = %v", l)
	}
}
