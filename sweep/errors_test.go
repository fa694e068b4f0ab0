package sweep_test

import (
	"math"
	"math/rand/v2"
	"reflect"
	"slices"
	"testing"

	"coble/api"
	"coble/sweep"
)

// asked is what a function answers: whether all its results but the error are zero values, and the error.
type asked struct {
	name string
	zero bool
	e    api.Errno
}

// task is a puzzle with a rule, and by how much its plan is to be better.
type task struct {
	puzzle
	r       api.Rule
	percent int
}

// good is the task of the chapter's examples.
func good() task {
	return task{puzzle{first(), targets(), plan(), drifter(), sightings()}, api.Rule{Percent: 60, Hope: 9}, 7}
}

// ask calls all functions but Check.
func ask(x task) []asked {
	none := api.Share{}
	e1 := sweep.CheckPlan(x.h, x.plan)
	found, e2 := sweep.Found(x.h, x.l, x.plan)
	left, e3 := sweep.Left(x.h, x.l, x.plan)
	best, chance, e4 := sweep.Best(x.h, x.l)
	better, e5 := sweep.Better(x.h, x.l, x.plan, x.percent)
	ticks, reason, e6 := sweep.Ends(x.h, x.l, x.plan, x.r)
	sure, e7 := sweep.Sure(x.h, x.x, x.seen, x.plan)
	leeway, cells, e8 := sweep.Hide(x.h, x.x, x.seen, x.plan)
	return []asked{
		{"CheckPlan", true, e1}, {"Found", found == none, e2}, {"Left", len(left) == 0, e3}, {"Best", len(best) == 0 && chance == none, e4}, {"Better", len(better) == 0, e5},
		{"Ends", ticks == 0 && reason == 0, e6}, {"Sure", sure == none, e7}, {"Hide", leeway == 0 && len(cells) == 0, e8},
	}
}

// answer holds that some functions return one error and nothing else, and that no other one returns it.
func answer(t *testing.T, name string, x task, want api.Errno, who ...string) {
	t.Helper()
	for _, a := range ask(x) {
		if slices.Contains(who, a.name) != (a.e == want) || a.e != api.OK && !a.zero {
			t.Errorf("%s: %s: %d, zero %v", name, a.name, a.e, a.zero)
		}
	}
}

var (
	everyone  = []string{"CheckPlan", "Found", "Left", "Best", "Better", "Ends", "Sure", "Hide"}
	ofTargets = []string{"Found", "Left", "Best", "Better", "Ends"}
	ofDrift   = []string{"Sure", "Hide"}
	withPlan  = []string{"CheckPlan", "Found", "Left", "Better", "Ends", "Sure", "Hide"}
)

// TestErrorsInOrder is R1: ErrHunt, ErrDrifter and ErrSeen, ErrParticle, ErrPlan, ErrRule, each also with errors that are
// named later.
func TestErrorsInOrder(t *testing.T) {
	for name, h := range badHunts() {
		x := good()
		x.h = h
		answer(t, name, x, api.ErrHunt, everyone...)
		x.l, x.plan, x.x, x.seen, x.r, x.percent = nil, nil, api.Drifter{}, []api.Sighting{{Tick: -1}}, api.Rule{Percent: -1}, 0
		answer(t, name+" and more", x, api.ErrHunt, everyone...)
	}
	for _, d := range badDrifters() {
		x := good()
		x.x = d
		answer(t, "drifter", x, api.ErrDrifter, ofDrift...)
		x.seen, x.plan = []api.Sighting{{Tick: -1}}, nil
		answer(t, "drifter and more", x, api.ErrDrifter, ofDrift...)
	}
	for _, seen := range badSightings() {
		x := good()
		x.x.At, x.seen = 1, seen
		answer(t, "sighting", x, api.ErrSeen, ofDrift...)
		x.plan = nil
		answer(t, "sighting and more", x, api.ErrSeen, ofDrift...)
	}
	for name, l := range badParticles() {
		x := good()
		x.l = l
		answer(t, name, x, api.ErrParticle, ofTargets...)
		x.plan, x.r, x.percent = nil, api.Rule{Percent: -1}, 0
		answer(t, name+" and more", x, api.ErrParticle, ofTargets...)
	}
	for name, p := range badPlans() {
		x := good()
		x.plan = p
		answer(t, name, x, api.ErrPlan, withPlan...)
		x.seen, x.r, x.percent = never(), api.Rule{Percent: -1}, 0
		answer(t, name+" and more", x, api.ErrPlan, withPlan...)
	}
	for _, r := range badRules() {
		x := good()
		x.r = r
		answer(t, "rule", x, api.ErrRule, "Ends")
	}
	for _, n := range []int{-1, 0, 101, math.MinInt, math.MaxInt} {
		x := good()
		x.percent = n
		answer(t, "percent", x, api.ErrArg, "Better")
	}
}

func badDrifters() []api.Drifter {
	one := []int{4}
	return []api.Drifter{
		{}, {Cells: []int{12}}, {Cells: []int{-1}}, {Cells: []int{5, 4}}, {Cells: []int{4, 4}}, {At: 5, Cells: one}, {At: -1, Cells: one},
		{Cells: one, Leeway: span(2, 1)}, {Cells: one, Leeway: span(0, 9)}, {Cells: one, Leeway: span(-1, 3)}, {At: math.MaxInt, Cells: one},
	}
}

// badSightings are sightings of a drifter since the tick 1.
func badSightings() [][]api.Sighting {
	fine := api.Sighting{Tick: 1}
	return [][]api.Sighting{
		{{Tick: 0}}, {{Tick: 5}}, {fine, {Tick: 1, Cells: []int{12}}}, {{Tick: 2, Cells: []int{3, 3}}, fine}, {{Tick: -1, Seen: true}}, slices.Repeat([]api.Sighting{fine}, 13),
	}
}

// TestErrorsTogether: what is named with a function comes last; and ErrArg before ErrNone.
func TestErrorsTogether(t *testing.T) {
	sure := good()
	sure.h = copied(sure.h)
	sure.h.Units[0].Chance, sure.l, sure.percent = 100, []api.Particle{particle(3, 4, 5, 6)}, 1
	answer(t, "found for sure", sure, api.ErrNone, "Left", "Better")
	sure.percent = 101
	answer(t, "found for sure, and more", sure, api.ErrArg, "Better")
	x := good()
	x.seen = never()
	answer(t, "no history", x, api.ErrNone, "Sure", "Hide")
	x = good()
	x.h = copied(x.h)
	x.h.Units[0].Cell = 6
	answer(t, "no plan", x, api.ErrNone, "Best")
	x.plan = [][]int{{6, 6, 6}, {10, 10, 10}}
	answer(t, "no plan, and one that is not valid", x, api.ErrNone, "Best")
}

// TestNoPanic is P1: for arguments of all kinds each function returns, and with an error nothing else.
func TestNoPanic(t *testing.T) {
	r := rand.New(rand.NewPCG(15, 15))
	odd := []int{math.MinInt, -1 << 32, -2, -1, 0, 1, 2, 3, 4, 5, 8, 9, 11, 12, 60, 61, 100, 101, 800, 801, 1 << 32, math.MaxInt}
	some := func() int { return odd[r.IntN(len(odd))] }
	near := func() int { return r.IntN(14) - 1 }
	hunts := []api.Hunt{{}, first(), hunt(1, 1, 1, aircraft(0, 1, 50)), hunt(3, 3, 2, aircraft(4, 1, 50), boat(3, 1, 5, 5)), {Drift: first().Drift}}
	for i := range 6000 {
		n := some
		if i%3 > 0 {
			n = near
		}
		x := good()
		x.h = copied(hunts[r.IntN(len(hunts))])
		if r.IntN(3) == 0 {
			x.h.Units = append(x.h.Units, api.Unit{Cell: n(), Reach: n(), Draught: n(), Chance: n()})
		}
		if r.IntN(3) == 0 {
			x.h.Ticks = n()
		}
		for range r.IntN(3) {
			x.l = append(x.l, particle(n(), n(), n(), n()))
		}
		if r.IntN(2) == 0 {
			x.plan = [][]int{{n(), n(), n()}, {n(), n(), n()}}[:r.IntN(3)]
		}
		if r.IntN(2) == 0 {
			x.x, x.seen = api.Drifter{At: n(), Cells: []int{n()}, Leeway: span(n(), n())}, []api.Sighting{{Tick: n(), Cells: []int{n()}}}
		}
		x.r, x.percent = api.Rule{Percent: n(), Hope: n()}, n()
		bad := sweep.Check(x.h)
		for _, a := range ask(x) {
			if a.e != api.OK && !a.zero || bad != api.OK && a.e != bad || bad == api.OK && a.e == api.ErrHunt {
				t.Fatalf("%s(%v): %d, zero %v, Check %d", a.name, x, a.e, a.zero, bad)
			}
		}
	}
}

// answers are all that the functions tell of a task.
type answers struct {
	found, chance, sure   api.Share
	left                  []api.Share
	best, better          [][]int
	ticks, reason, leeway int
	hide                  []int
}

func tell(x task) answers {
	var a answers
	a.found, _ = sweep.Found(x.h, x.l, x.plan)
	a.left, _ = sweep.Left(x.h, x.l, x.plan)
	a.best, a.chance, _ = sweep.Best(x.h, x.l)
	a.better, _ = sweep.Better(x.h, x.l, x.plan, x.percent)
	a.ticks, a.reason, _ = sweep.Ends(x.h, x.l, x.plan, x.r)
	a.sure, _ = sweep.Sure(x.h, x.x, x.seen, x.plan)
	a.leeway, a.hide, _ = sweep.Hide(x.h, x.x, x.seen, x.plan)
	return a
}

// spare returns a copy that has memory behind its length.
func spare[T any](l []T, behind T) []T { return append(slices.Clone(l), behind)[:len(l)] }

// roomy returns the task of the examples with memory behind its slices.
func roomy() task {
	x := good()
	d := &x.h.Drift
	d.Chart.Depth, d.Zones, d.Wind = spare(d.Chart.Depth, 77), spare(d.Zones, 77), spare(d.Wind, api.Push{Dirs: 77})
	d.Chart.Tide, d.Chart.Swell, d.Currents = spare(d.Chart.Tide, span(77, 77)), spare(d.Chart.Swell, 77), spare(d.Currents, nil)
	x.h.Units, x.l = spare(x.h.Units, api.Unit{Cell: 77}), spare(x.l, api.Particle{Weight: 77})
	x.plan = spare([][]int{spare(x.plan[0], 77), spare(x.plan[1], 77)}, nil)
	x.x.Cells, x.seen = spare(x.x.Cells, 77), spare(x.seen, api.Sighting{Tick: 77})
	return x
}

// TestMemory is R4: no argument is changed, also behind its length, no result shares memory with anything, and nothing is
// kept between calls.
func TestMemory(t *testing.T) {
	x, want := roomy(), tell(good())
	for range 2 {
		a := tell(x)
		if !reflect.DeepEqual(a, want) {
			t.Fatalf("%v, but before %v", a, want)
		}
		a.left[0] = share(9, 9)
		for _, l := range append(append(a.best, a.better...), a.hide) {
			for i := range l[:cap(l)] {
				l[:cap(l)][i] = -9
			}
		}
		if !reflect.DeepEqual(x, good()) {
			t.Fatalf("the arguments are now %v", x)
		}
		d := x.h.Drift
		if d.Chart.Depth[:13][12] != 77 || d.Zones[:13][12] != 77 || d.Wind[:5][4].Dirs != 77 || d.Chart.Tide[:6][5].Low != 77 || d.Chart.Swell[:6][5] != 77 || d.Currents[:3][2] != nil {
			t.Fatal("something behind the drift was changed")
		}
		if x.h.Units[:3][2].Cell != 77 || x.l[:3][2].Weight != 77 || x.plan[:3][2] != nil || x.plan[0][:4][3] != 77 || x.plan[1][:4][3] != 77 || x.x.Cells[:2][1] != 77 || x.seen[:3][2].Tick != 77 {
			t.Fatal("something behind the arguments was changed")
		}
	}
}

// TestRowsApart is R4 within one result: the cells of one unit share no memory with those of another one.
func TestRowsApart(t *testing.T) {
	x := good()
	best, _ := mustBest(t, x.h, x.l)
	better, _ := sweep.Better(x.h, x.l, x.plan, 7)
	for _, p := range [][][]int{best, better} {
		want := slices.Clone(p[1])
		for i := range p[0][:cap(p[0])] {
			p[0][:cap(p[0])][i] = -9
		}
		if !slices.Equal(p[1], want) {
			t.Errorf("the cells of V are now %v", p[1])
		}
	}
}

// TestNothingKept: a search that is changed between two calls is asked anew.
func TestNothingKept(t *testing.T) {
	x := good()
	x.h = copied(x.h)
	for range 2 {
		for _, chance := range []int{0, 50, 100} {
			x.h.Units[0].Chance = chance
			fresh := good()
			fresh.h = copied(x.h)
			if a, want := tell(x), tell(fresh); !reflect.DeepEqual(a, want) || a.found == share(141, 160) != (chance == 50) {
				t.Errorf("with %d: %v, not %v", chance, a, want)
			}
		}
	}
}

// TestNilAndEmpty is R3.
func TestNilAndEmpty(t *testing.T) {
	x := good()
	x.h.Drift = calm(4, 3, 50, 1)
	x.h.Ticks, x.l, x.plan, x.seen = 1, []api.Particle{particle(1, 4)}, [][]int{{4}, {10}}, nil
	x.x.Cells = []int{4}
	want := tell(x)
	x.h.Drift.Wind, x.h.Drift.Currents, x.seen = nil, [][]api.Push{nil}, []api.Sighting{}
	if a := tell(x); !reflect.DeepEqual(a, want) || a.found != share(1, 2) || a.sure != share(1, 2) {
		t.Errorf("%v, not %v", a, want)
	}
	x.l, x.plan = []api.Particle{}, [][]int{}
	for _, a := range ask(x) {
		if a.name == "Found" && a.e != api.ErrParticle || a.name == "CheckPlan" && a.e != api.ErrPlan {
			t.Errorf("%s: %d", a.name, a.e)
		}
	}
}

// TestLargest: the largest chart with the greatest reach, all particles and eight looks.
func TestLargest(t *testing.T) {
	for units := 1; units <= 3; units++ {
		ticks := 8 / units
		h := hunt(12, 12, 60)
		h.Ticks = ticks
		var plan [][]int
		for i := range units {
			h.Units = append(h.Units, boat(143-i, 3, 50, 50+i))
			plan = append(plan, slices.Repeat([]int{143 - i}, ticks))
		}
		var l []api.Particle
		for i, cell := range []int{52, 53, 54, 64, 65, 66, 67, 76, 77, 78, 88, 89} {
			l = append(l, particle(55+i, slices.Repeat([]int{cell}, ticks)...))
		}
		if p, s := mustBest(t, h, l); compare(s, mustFound(t, h, l, plan)) < 0 || units == 1 && (p[0][7] < 52 || s.Over == 0) {
			t.Errorf("Best of %d = %v, %v", units, p, s)
		}
	}
}

// TestWidestDrift: the largest chart with the longest time, all leeways and the widest pushes.
func TestWidestDrift(t *testing.T) {
	h := hunt(12, 12, 60, boat(66, 3, 50, 50))
	h.Ticks = 8
	wild := slices.Repeat([]api.Push{{Dirs: 63, Steps: span(0, 3)}}, 59)
	h.Drift.Currents, h.Drift.Wind = [][]api.Push{wild}, wild
	x := puzzle{h: h, plan: [][]int{slices.Repeat([]int{66}, 8)}, x: api.Drifter{Cells: []int{66}, Leeway: span(0, 8)}}
	x.seen = []api.Sighting{{Tick: 0, Cells: []int{66}, Seen: true}, {Tick: 59, Cells: []int{66}, Seen: true}}
	if s := mustSure(t, x); s != share(1, 2) {
		t.Errorf("Sure = %v", s)
	}
	if h := mustHide(t, x); len(h.cells) != 60 || h.cells[0] != 66 || h.cells[59] != 66 || x.detected(h) != share(1, 2) {
		t.Errorf("Hide = %v", h)
	}
}
