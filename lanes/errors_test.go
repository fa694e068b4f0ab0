package lanes_test

import (
	"math"
	"math/rand/v2"
	"reflect"
	"slices"
	"testing"

	"coble/api"
	"coble/lanes"
)

// asked is what a function answers: whether all its results but the error are zero values, and the error.
type asked struct {
	name string
	zero bool
	e    api.Errno
}

// task is a puzzle with the trip of which Route and Block are asked.
type task struct {
	puzzle
	k api.Trip
}

// good is a task for which all functions but Block have an answer.
func good() task {
	return task{puzzle{sea(), legs(), []api.Trip{trip(0, 4, 6), flight(0, 2, 4, 6), trip(0, 4, 7)}, 1, 5}, trip(0, 8, 8)}
}

// stuck is a task for which all functions but Route have an answer.
func stuck() task {
	x := good()
	x.k = trip(0, 4, 6)
	return x
}

// ask calls all functions.
func ask(x task) []asked {
	e1 := lanes.Check(x.c, x.l)
	two, e2 := lanes.Clashes(x.c, x.l)
	free, e3 := lanes.Free(x.c, x.l, x.level, x.cell)
	cells, e4 := lanes.Route(x.c, x.l, x.k)
	blocks, e5 := lanes.Block(x.c, x.l, x.k)
	ends, e6 := lanes.Plan(x.c, x.l, x.trips)
	return []asked{
		{"Check", true, e1}, {"Clashes", len(two) == 0, e2}, {"Free", len(free) == 0, e3}, {"Route", len(cells) == 0, e4},
		{"Block", len(blocks) == 0, e5}, {"Plan", len(ends) == 0, e6},
	}
}

// answer holds that some functions return one error and nothing else, and that no other one returns it.
func answer(t *testing.T, name string, x task, want api.Errno, who ...string) {
	t.Helper()
	for _, a := range ask(x) {
		if slices.Contains(who, a.name) != (a.e == want) || a.e != api.OK && !a.zero {
			t.Errorf("%s: %s: %d, zero %v", name, a.name, a.e, a.zero)
		}
	}
}

var (
	everyone = []string{"Check", "Clashes", "Free", "Route", "Block", "Plan"}
	ofTrip   = []string{"Route", "Block"}
)

// TestNoErrors: Route and Block find that there is no answer just where the other one finds one.
func TestNoErrors(t *testing.T) {
	answer(t, "a route", good(), api.ErrNone, "Block")
	answer(t, "a route", good(), api.OK, "Check", "Clashes", "Free", "Route", "Plan")
	answer(t, "no route", stuck(), api.ErrNone, "Route")
	answer(t, "no route", stuck(), api.OK, "Check", "Clashes", "Free", "Block", "Plan")
}

// worse are ways to make a task not valid, and who returns which error then.
type worse struct {
	name   string
	e      api.Errno
	who    []string
	change []func(x *task)
}

// worsen returns the errors in the order in which they are named.
func worsen() []worse {
	charts, legs := worse{name: "chart", e: api.ErrChart, who: everyone}, worse{name: "legs", e: api.ErrLeg, who: everyone}
	for _, c := range badCharts() {
		charts.change = append(charts.change, func(x *task) { x.c = c })
	}
	for _, l := range badLegs() {
		legs.change = append(legs.change, func(x *task) { x.l = append(x.l, l) }, func(x *task) { x.l = append([]api.Leg{l}, x.l...) })
	}
	legs.change = append(legs.change, func(x *task) { x.l = slices.Repeat([]api.Leg{plane(0, 1, 0)}, 13) })
	trips, planned := worse{name: "trip", e: api.ErrTrip, who: ofTrip}, worse{name: "trips", e: api.ErrTrip, who: []string{"Plan"}}
	for _, k := range badTrips() {
		trips.change = append(trips.change, func(x *task) { x.k = k })
		planned.change = append(planned.change, func(x *task) { x.trips = append(slices.Clone(x.trips), k) }, func(x *task) { x.trips = []api.Trip{k, x.trips[0]} })
	}
	many := worse{name: "many", e: api.ErrMany, who: []string{"Plan"}}
	for _, n := range []int{7, 8, 9} {
		many.change = append(many.change, func(x *task) { x.trips = slices.Repeat(x.trips[len(x.trips)-1:], n) })
	}
	level, cell := worse{name: "level", e: api.ErrArg, who: []string{"Free"}}, worse{name: "cell", e: api.ErrArg, who: []string{"Free"}}
	for _, n := range []int{-1, 4, math.MinInt, math.MaxInt} {
		level.change = append(level.change, func(x *task) { x.level = n })
	}
	for _, n := range []int{-1, 12, 144, math.MinInt, math.MaxInt} {
		cell.change = append(cell.change, func(x *task) { x.cell = n })
	}
	return []worse{charts, legs, many, planned, trips, level, cell}
}

// TestErrorsInOrder is R1: ErrChart, ErrLeg, ErrMany, ErrTrip, ErrArg, each alone and with all that are named later.
func TestErrorsInOrder(t *testing.T) {
	for _, fresh := range []func() task{good, stuck} {
		later := fresh()
		for _, w := range slices.Backward(worsen()) {
			for _, change := range w.change {
				one, more := fresh(), later
				change(&one)
				change(&more)
				answer(t, w.name, one, w.e, w.who...)
				for _, a := range ask(more) {
					if slices.Contains(w.who, a.name) && (a.e != w.e || !a.zero) {
						t.Errorf("%s and more: %s: %d, zero %v", w.name, a.name, a.e, a.zero)
					}
				}
			}
			w.change[0](&later)
		}
	}
}

// TestErrorsOfPlan is P6.6: ErrLeg also with more than 12 legs and trips, ErrMany with more than six trips before ErrTrip.
func TestErrorsOfPlan(t *testing.T) {
	leg, k := plane(0, 3, 0), trip(0, 5, 5)
	for _, x := range []struct {
		legs, trips int
		want        api.Errno
	}{
		{12, 0, api.OK}, {12, 1, api.ErrLeg}, {11, 1, api.OK}, {11, 2, api.ErrLeg}, {10, 3, api.ErrLeg}, {8, 4, api.OK}, {7, 5, api.OK}, {7, 6, api.ErrLeg}, {6, 6, api.OK},
		{5, 7, api.ErrMany}, {0, 7, api.ErrMany}, {0, 12, api.ErrMany}, {1, 11, api.ErrMany}, {0, 6, api.OK}, {13, 0, api.ErrLeg}, {13, 6, api.ErrLeg}, {13, 7, api.ErrLeg},
	} {
		l, trips := slices.Repeat([]api.Leg{leg}, x.legs), slices.Repeat([]api.Trip{k}, x.trips)
		if ends, e := lanes.Plan(sea(), l, trips); e != x.want || e != api.OK && len(ends) > 0 {
			t.Errorf("Plan of %d trips among %d legs = %v, %d", x.trips, x.legs, ends, e)
		}
		if x.trips == 0 {
			continue
		}
		trips[x.trips-1].To = 12
		if x.want == api.OK {
			x.want = api.ErrTrip
		}
		if ends, e := lanes.Plan(sea(), l, trips); e != x.want || len(ends) > 0 {
			t.Errorf("Plan of %d trips among %d legs, one of them not valid = %v, %d", x.trips, x.legs, ends, e)
		}
	}
	for _, n := range []int{0, 1, 7, 13} {
		if ends, e := lanes.Plan(sea(), []api.Leg{{}}, slices.Repeat([]api.Trip{k}, n)); e != api.ErrLeg || len(ends) > 0 {
			t.Errorf("Plan of %d trips without a valid leg = %v, %d", n, ends, e)
		}
	}
}

// TestNoPanic is P1: for arguments of all kinds each function returns, and with an error nothing else.
func TestNoPanic(t *testing.T) {
	r := rand.New(rand.NewPCG(17, 17))
	odd := []int{math.MinInt, -1 << 32, -2, -1, 0, 1, 2, 3, 4, 5, 11, 12, 20, 59, 60, 100, 101, 143, 144, 1 << 32, math.MaxInt}
	charts := []api.Chart{{}, sea(), deep(), calm(1, 1, 5, 1), calm(3, 2, 50, 4), {Wide: math.MaxInt, High: math.MaxInt}, {Wide: math.MinInt, High: -1}, {Wide: 1, High: 1, Depth: []int{0}}}
	fine := 0
	for i := range 30000 {
		n := func() int { return odd[r.IntN(len(odd))] }
		if i%3 > 0 {
			n = func() int { return r.IntN(6) - 1 }
		}
		x := good()
		if r.IntN(3) == 0 {
			x.c = charts[r.IntN(len(charts))]
		}
		for range r.IntN(3) {
			l := api.Leg{At: n(), Level: n(), Draught: n(), Tail: r.IntN(2) == 0}
			for range r.IntN(4) {
				l.Cells = append(l.Cells, n())
			}
			x.l = append(x.l, l)
		}
		for range r.IntN(3) {
			x.trips = append(x.trips, api.Trip{At: n(), Level: n(), Draught: n(), Tail: r.IntN(2) == 0, From: n(), To: n()})
		}
		x.k, x.level, x.cell = x.trips[len(x.trips)-1], n(), n()
		bad := lanes.Check(x.c, x.l)
		for _, a := range ask(x) {
			if a.e != api.OK && !a.zero || bad != api.OK && a.e != bad {
				t.Fatalf("%s(%v): %d, zero %v, Check %d", a.name, x, a.e, a.zero, bad)
			}
			if a.e == api.OK {
				fine++
			}
		}
	}
	if fine < 20000 {
		t.Errorf("only %d answers", fine)
	}
}

// answers are all that the functions tell of a task.
type answers struct {
	e                   api.Errno
	two                 [][3]int
	free                []api.Span
	cells, blocks, ends []int
}

func tell(x task) answers {
	a := answers{e: lanes.Check(x.c, x.l)}
	a.two, _ = lanes.Clashes(x.c, x.l)
	a.free, _ = lanes.Free(x.c, x.l, x.level, x.cell)
	a.cells, _ = lanes.Route(x.c, x.l, x.k)
	a.blocks, _ = lanes.Block(x.c, x.l, x.k)
	a.ends, _ = lanes.Plan(x.c, x.l, x.trips)
	return a
}

// same reports whether two tasks have the same answers; nil and empty ones are the same.
func same(a, b answers) bool {
	return a.e == b.e && slices.Equal(a.two, b.two) && slices.Equal(a.free, b.free) &&
		slices.Equal(a.cells, b.cells) && slices.Equal(a.blocks, b.blocks) && slices.Equal(a.ends, b.ends)
}

// spare returns a copy that has memory behind its length.
func spare[T any](l []T, behind ...T) []T { return append(slices.Clone(l), behind...)[:len(l)] }

// TestMemory is R4: no argument is changed, also behind its length, no result shares memory with anything, and nothing is
// kept between calls.
func TestMemory(t *testing.T) {
	for _, fresh := range []func() task{good, stuck} {
		x, want := fresh(), tell(fresh())
		x.c.Depth, x.c.Tide, x.c.Swell = spare(x.c.Depth, 77), spare(x.c.Tide, span(77, 77)), spare(x.c.Swell, 77)
		for i := range x.l {
			x.l[i].Cells = spare(x.l[i].Cells, 77)
		}
		x.l, x.trips = spare(x.l, plane(77, 7), plane(77, 7), plane(77, 7)), spare(x.trips, trip(77, 7, 7))
		for range 2 {
			a := tell(x)
			if !same(a, want) || a.e != api.OK || len(a.cells)+len(a.blocks) == 0 {
				t.Fatalf("%v, but before %v", a, want)
			}
			for _, l := range [][]int{a.cells, a.blocks, a.ends} {
				for i := range l[:cap(l)] {
					l[:cap(l)][i] = -9
				}
			}
			clear(a.two)
			clear(a.free)
			if !reflect.DeepEqual(x, fresh()) {
				t.Fatalf("the arguments are now %v", x)
			}
			if x.c.Depth[:13][12] != 77 || x.c.Tide[:6][5].Low != 77 || x.c.Swell[:6][5] != 77 || x.trips[:4][3].At != 77 {
				t.Fatal("something behind the arguments was changed")
			}
			for i, l := range x.l[:6] {
				if i >= 3 && l.At != 77 || i < 3 && l.Cells[:len(l.Cells)+1][len(l.Cells)] != 77 {
					t.Fatal("something behind the legs was changed")
				}
			}
		}
	}
}

// TestNothingKept: legs that are changed between two calls are asked anew.
func TestNothingKept(t *testing.T) {
	x := good()
	x.c = copied(x.c)
	for range 2 {
		for _, cell := range []int{9, 11, 10} {
			x.l[0].Cells[3] = cell
			x.c.Swell[4] = cell % 2
			fresh := good()
			fresh.c = copied(x.c)
			fresh.l[0].Cells[3] = cell
			if a, want := tell(x), tell(fresh); !same(a, want) || a.e != api.OK {
				t.Errorf("with %d: %v, not %v", cell, a, want)
			}
		}
	}
}

// TestNilAndEmpty is R3.
func TestNilAndEmpty(t *testing.T) {
	x := good()
	x.l, x.trips = nil, nil
	want := tell(x)
	x.l, x.trips = []api.Leg{}, []api.Trip{}
	if a := tell(x); !same(a, want) || a.e != api.OK || len(a.two) > 0 || len(a.ends) > 0 || !slices.Equal(a.free, []api.Span{span(0, 4)}) || !slices.Equal(a.cells, []int{8}) {
		t.Errorf("%v, not %v", a, want)
	}
	for _, cells := range [][]int{nil, {}} {
		x.l = []api.Leg{boat(0, cells...)}
		answer(t, "no cells", x, api.ErrLeg, everyone...)
	}
	x.c.Depth, x.c.Tide, x.c.Swell = []int{}, []api.Span{}, []int{}
	answer(t, "an empty chart", x, api.ErrChart, everyone...)
}
