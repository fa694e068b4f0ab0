package drift_test

import (
	"math"
	"math/rand/v2"
	"reflect"
	"slices"
	"testing"

	"coble/api"
	"coble/drift"
)

// asked is what a function answers: whether all its results but the error are zero values, and the error.
type asked struct {
	name string
	zero bool
	e    api.Errno
}

// ask calls all functions that have a drifter.
func ask(p puzzle, cell, tick int) []asked {
	places, e1 := drift.Places(p.d, p.x, p.seen)
	leeways, e2 := drift.Leeways(p.d, p.x, p.seen)
	leeway, cells, e3 := drift.History(p.d, p.x, p.seen, cell, tick)
	conflict, e4 := drift.Conflict(p.d, p.x, p.seen)
	struck, e5 := drift.Struck(p.d, p.x, p.seen, cell, tick)
	sure, may, e6 := drift.Alive(p.d, p.x, p.seen, p.b)
	return []asked{
		{"Places", len(places) == 0, e1}, {"Leeways", len(leeways) == 0, e2},
		{"History", leeway == 0 && len(cells) == 0, e3}, {"Conflict", len(conflict) == 0, e4},
		{"Struck", len(struck) == 0, e5}, {"Alive", sure == 0 && may == 0, e6},
	}
}

// allAnswer: all functions return one error and nothing else, whatever comes behind what is not valid.
func allAnswer(t *testing.T, name string, p puzzle, want api.Errno) {
	t.Helper()
	for _, at := range [][2]int{{4, 1}, {-2, 1}, {12, 99}, {0, -1}} {
		for _, x := range ask(p, at[0], at[1]) {
			if x.e != want || !x.zero {
				t.Errorf("%s: %s at %v: %d, zero %v", name, x.name, at, x.e, x.zero)
			}
		}
	}
}

// TestErrorsInOrder is R1: ErrDrift, then ErrDrifter, then ErrSeen, each also with errors that are named later.
func TestErrorsInOrder(t *testing.T) {
	good := puzzle{sea(), api.Drifter{At: 1, Cells: []int{4}}, nil, body()}
	for name, d := range invalid() {
		for _, x := range []api.Drifter{good.x, {}} {
			allAnswer(t, name, puzzle{d, x, nil, good.b}, api.ErrDrift)
			allAnswer(t, name, puzzle{d, x, make([]api.Sighting, 13), api.Body{}}, api.ErrDrift)
		}
		for _, at := range [][3]int{{4, 0, 0}, {-2, 9, 9}, {0, 4, 0}} {
			if l, e := drift.Step(d, at[0], at[1], at[2]); e != api.ErrDrift || len(l) > 0 {
				t.Errorf("%s: Step = %v, %d", name, l, e)
			}
		}
	}
	for _, x := range badDrifters() {
		allAnswer(t, "drifter", puzzle{good.d, x, nil, good.b}, api.ErrDrifter)
		allAnswer(t, "drifter", puzzle{good.d, x, []api.Sighting{{Tick: -1}}, api.Body{}}, api.ErrDrifter)
	}
	for _, s := range badSightings() {
		for _, l := range [][]api.Sighting{{s}, {{Tick: 1}, s}, {{Tick: 1, Seen: true}, s, {Tick: 2}}, append(make([]api.Sighting, 12), s)} {
			allAnswer(t, "sighting", puzzle{good.d, good.x, l, good.b}, api.ErrSeen)
			allAnswer(t, "sighting", puzzle{good.d, good.x, l, api.Body{}}, api.ErrSeen)
		}
	}
	many := slices.Repeat([]api.Sighting{{Tick: 1}}, 13)
	allAnswer(t, "13 sightings", puzzle{good.d, good.x, many, good.b}, api.ErrSeen)
	for _, x := range ask(puzzle{good.d, good.x, many[1:], good.b}, 4, 1) {
		if x.e != api.OK && x.e != api.ErrNone {
			t.Errorf("12 sightings: %s: %d", x.name, x.e)
		}
	}
}

// TestErrorsTogether: ErrArg before ErrNone.
func TestErrorsTogether(t *testing.T) {
	p := puzzle{sea(), drifter(), never(), body()}
	for _, at := range [][2]int{{-2, 1}, {12, 1}, {4, 5}, {4, -1}} {
		if l, h, e := drift.History(p.d, p.x, p.seen, at[0], at[1]); l != 0 || len(h) > 0 || e != api.ErrArg {
			t.Errorf("History at %v = %d, %v, %d", at, l, h, e)
		}
	}
	for _, x := range ask(p, 4, 1) {
		want := api.ErrNone
		if x.name == "Conflict" || x.name == "Struck" {
			want = api.OK
		}
		if x.e != want || x.e != api.OK && !x.zero {
			t.Errorf("%s: %d, zero %v", x.name, x.e, x.zero)
		}
	}
}

// TestNoPanic is P1: for arguments of all kinds each function returns, and with an error nothing else.
func TestNoPanic(t *testing.T) {
	r := rand.New(rand.NewPCG(12, 12))
	odd := []int{math.MinInt, -1 << 32, -9, -2, -1, 0, 1, 2, 3, 4, 5, 8, 9, 11, 12, 60, 63, 64, 1 << 32, math.MaxInt}
	some := func() int { return odd[r.IntN(len(odd))] }
	near := func() int { return r.IntN(14) - 1 }
	drifts := []api.Drift{{}, sea(), still(1, 1, 5, 1), still(3, 3, 5, 3), {Chart: sea().Chart}}
	for i := range 5000 {
		n := some
		if i%2 == 0 {
			n = near
		}
		d := copied(drifts[r.IntN(len(drifts))])
		if len(d.Zones) > 0 && r.IntN(4) == 0 {
			d.Zones[0] = n()
		}
		if len(d.Wind) > 0 && r.IntN(4) == 0 {
			d.Wind[0] = api.Push{Dirs: n(), Steps: span(n(), n())}
		}
		p := puzzle{d: d, x: api.Drifter{At: n() / 4, Cells: []int{n()}, Leeway: span(n(), n())}}
		for range r.IntN(3) {
			p.seen = append(p.seen, api.Sighting{Tick: n() / 4, Cells: []int{n()}, Seen: r.IntN(2) == 0})
		}
		p.b = api.Body{Costs: []api.Span{span(n(), n()), span(n(), n())}, Strength: span(n(), n())}
		for _, x := range ask(p, n(), n()) {
			if x.e != api.OK && !x.zero || (x.e == api.ErrDrift) != (drift.Check(d) != api.OK) {
				t.Fatalf("%s(%v): %d, zero %v", x.name, p, x.e, x.zero)
			}
		}
		if l, e := drift.Step(d, n(), n(), n()); e != api.OK && len(l) > 0 || e == api.OK && len(l) == 0 {
			t.Fatalf("Step(%v) = %v, %d", d, l, e)
		}
	}
}

// answers are all that the functions tell of a puzzle.
type answers struct {
	step, leeways, cells, conflict, struck []int
	places                                 [][]int
	numbers                                [3]int
}

func tell(p puzzle) answers {
	var a answers
	a.step, _ = drift.Step(p.d, 4, 0, 4)
	a.places, _ = drift.Places(p.d, p.x, p.seen[:2])
	a.leeways, _ = drift.Leeways(p.d, p.x, p.seen[:2])
	a.numbers[0], a.cells, _ = drift.History(p.d, p.x, p.seen[:2], 9, 1)
	a.conflict, _ = drift.Conflict(p.d, p.x, p.seen)
	a.struck, _ = drift.Struck(p.d, p.x, p.seen[:2], 4, 1)
	a.numbers[1], a.numbers[2], _ = drift.Alive(p.d, p.x, p.seen[:2], p.b)
	return a
}

func spoil(l []int) {
	for i := range l[:cap(l)] {
		l[:cap(l)][i] = -9
	}
}

// TestMemory is R4: no argument is changed, also behind its length, no result shares memory with anything, and nothing is
// kept between calls.
func TestMemory(t *testing.T) {
	behind := func(l []int) []int { return append(slices.Clone(l), 77)[:len(l)] }
	build := func() puzzle {
		p := puzzle{sea(), drifter(), never(), body()}
		p.d.Zones, p.d.Chart.Depth, p.x.Cells = behind(p.d.Zones), behind(p.d.Chart.Depth), behind(p.x.Cells)
		p.seen[0].Cells = behind(p.seen[0].Cells)
		p.seen = append(p.seen, api.Sighting{Tick: 77})[:3]
		return p
	}
	p, first := build(), tell(build())
	for range 2 {
		a := tell(p)
		if !reflect.DeepEqual(a, first) {
			t.Fatalf("%v, but before %v", a, first)
		}
		for _, l := range append(a.places, a.step, a.leeways, a.cells, a.conflict, a.struck) {
			spoil(l)
		}
		if !reflect.DeepEqual(p, build()) || p.d.Zones[:13][12] != 77 || p.x.Cells[:2][1] != 77 || p.seen[:4][3].Tick != 77 || p.seen[0].Cells[:3][2] != 77 {
			t.Fatalf("the arguments are now %v", p)
		}
	}
	l := mustPlaces(t, p.d, p.x, nil)
	spoil(l[1])
	if !slices.Equal(l[0], []int{4}) || slices.Contains(l[2], -9) {
		t.Errorf("Places = %v", l)
	}
}

// TestNothingKept: a drift that is changed between two calls is asked anew.
func TestNothingKept(t *testing.T) {
	d := lane(4, span(1, 1))
	for range 2 {
		if l := mustStep(t, d, 0, 0, 0); !slices.Equal(l, []int{1}) {
			t.Errorf("Step = %v", l)
		}
		d.Chart.Depth[1] = -5
		if l := mustStep(t, d, 0, 0, 0); !slices.Equal(l, []int{0}) {
			t.Errorf("Step up to what is dry = %v", l)
		}
		d.Chart.Depth[1] = 5
	}
}
