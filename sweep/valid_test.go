package sweep_test

import (
	"maps"
	"math"
	"math/rand/v2"
	"slices"
	"strconv"
	"testing"

	"coble/api"
	"coble/sweep"
)

// named are values that are not valid, by what is wrong with them.
type named[T any] map[string]T

func (l named[T]) add(name string, x T) { l[name+" "+strconv.Itoa(len(l))] = x }

// badHunts returns hunts that are not valid.
func badHunts() named[api.Hunt] {
	l := named[api.Hunt]{"nothing": {}}
	add := func(name string, change func(h *api.Hunt)) {
		h := copied(first())
		change(&h)
		l.add(name, h)
	}
	add("drift", func(h *api.Hunt) { h.Drift = api.Drift{} })
	add("chart", func(h *api.Hunt) { h.Drift.Chart.Wide = 5 })
	add("zones", func(h *api.Hunt) { h.Drift.Zones = h.Drift.Zones[:11] })
	add("zone", func(h *api.Hunt) { h.Drift.Zones[3] = 2 })
	add("wind", func(h *api.Hunt) { h.Drift.Wind[3].Dirs = 0 })
	add("current", func(h *api.Hunt) { h.Drift.Currents[1][0].Steps.High = 4 })
	for _, n := range []int{-1, 0, 5, 6, 60, math.MinInt, math.MaxInt} { // five ticks of two units are ten looks
		add("ticks", func(h *api.Hunt) { h.Ticks = n })
	}
	for _, n := range []int{6, 7, 8, math.MaxInt} {
		add("ticks of one unit", func(h *api.Hunt) { h.Ticks, h.Units = n, h.Units[:1] })
	}
	add("no units", func(h *api.Hunt) { h.Units = nil })
	add("looks", func(h *api.Hunt) { h.Units = append(h.Units, aircraft(0, 1, 1)) })
	for i := range 2 {
		for _, n := range []int{-1, 12, 13, math.MinInt, math.MaxInt} {
			add("cell", func(h *api.Hunt) { h.Units[i].Cell = n })
		}
		for _, n := range []int{-1, 4, math.MinInt, math.MaxInt} {
			add("reach", func(h *api.Hunt) { h.Units[i].Reach = n })
		}
		for _, n := range []int{-1, 101, math.MinInt, math.MaxInt} {
			add("draught", func(h *api.Hunt) { h.Units[i].Draught = n })
			add("chance", func(h *api.Hunt) { h.Units[i].Chance = n })
		}
	}
	l.add("four units", hunt(4, 3, 1, slices.Repeat([]api.Unit{{}}, 4)...))
	l.add("four units in two ticks", hunt(4, 3, 2, slices.Repeat([]api.Unit{{}}, 4)...))
	l.add("nine ticks", hunt(4, 3, 9, api.Unit{}))
	l.add("three units in three ticks", hunt(4, 3, 3, slices.Repeat([]api.Unit{{}}, 3)...))
	return l
}

// TestCheckInvalid is P4.1 of hunts that are not valid.
func TestCheckInvalid(t *testing.T) {
	for name, h := range badHunts() {
		if e := sweep.Check(h); e != api.ErrHunt {
			t.Errorf("%s: Check: %d", name, e)
		}
	}
}

// TestCheck is P4.1 of hunts that are just valid: it does not matter whether there is a plan.
func TestCheck(t *testing.T) {
	unit := aircraft(0, 0, 0)
	late := hunt(12, 12, 60, unit)
	late.Ticks = 8
	for i, h := range []api.Hunt{
		first(), late, hunt(1, 1, 1, unit), hunt(2, 1, 8, unit), hunt(2, 1, 4, unit, unit), hunt(2, 1, 2, unit, unit, unit), hunt(2, 1, 1, unit, unit, unit),
		hunt(4, 3, 2, boat(11, 3, 100, 100), boat(0, 0, 1, 1), aircraft(5, 2, 99)), {Drift: calm(3, 3, -1000, 3), Ticks: 1, Units: []api.Unit{boat(8, 3, 100, 0)}},
	} {
		if e := sweep.Check(h); e != api.OK {
			t.Errorf("%d: Check: %d", i, e)
		}
	}
}

// badPlans are plans that are not valid for H.
func badPlans() map[string][][]int {
	return map[string][][]int{
		"none": nil, "empty": {{}, {}}, "one unit": {{4, 5, 6}}, "three units": {{4, 5, 6}, {10, 10, 10}, {11, 11, 11}}, "two ticks": {{4, 5}, {10, 10}},
		"two ticks of U": {{4, 5}, {10, 10, 10}}, "two ticks of V": {{4, 5, 6}, {10, 10}}, "nothing of V": {{4, 5, 6}, nil},
		"four ticks": {{4, 5, 6, 6}, {10, 10, 10, 10}}, "four ticks of V": {{4, 5, 6}, {10, 10, 10, 10}}, "five ticks": {{4, 4, 4, 4, 4}, {10, 10, 10, 10, 10}},
		"the other way round": {{10, 10, 10}, {4, 5, 6}}, "start of U": {{5, 5, 6}, {10, 10, 10}}, "start of V": {{4, 5, 6}, {9, 10, 10}},
		"start of V beside": {{4, 5, 6}, {11, 10, 10}}, "not a cell": {{4, 5, 6}, {10, 11, 12}}, "not a cell at first": {{-1, 4, 5}, {10, 10, 10}},
		"outside": {{4, 5, -1}, {10, 10, 10}}, "outside too": {{4, 5, 6}, {10, -1, 10}}, "far": {{4, 5, 6}, {10, math.MaxInt, 10}}, "far back": {{4, math.MinInt, 6}, {10, 10, 10}},
		"two steps": {{4, 5, 7}, {10, 10, 10}}, "two steps at first": {{4, 6, 6}, {10, 10, 10}}, "two steps of V": {{4, 5, 6}, {10, 10, 8}},
		"aground": {{4, 1, 5}, {10, 10, 10}}, "never deep": {{4, 5, 2}, {10, 10, 10}}, "one cell": {{4, 5, 6}, {10, 5, 6}}, "one cell in the end": {{4, 9, 10}, {10, 10, 10}},
		"one cell once": {{4, 5, 6}, {10, 5, 5}},
	}
}

// TestCheckPlanInvalid is P4.1 of plans that are not valid.
func TestCheckPlanInvalid(t *testing.T) {
	for name, p := range badPlans() {
		if e := sweep.CheckPlan(first(), p); e != api.ErrPlan {
			t.Errorf("%s: CheckPlan: %d", name, e)
		}
	}
	for _, h := range badHunts() {
		for _, p := range [][][]int{plan(), nil} {
			if e := sweep.CheckPlan(h, p); e != api.ErrHunt {
				t.Errorf("CheckPlan of %v: %d", h, e)
			}
		}
	}
	// units that start in one cell have no plan
	same := hunt(3, 1, 1, aircraft(1, 1, 1), aircraft(1, 1, 1))
	if e := sweep.CheckPlan(same, [][]int{{1}, {1}}); e != api.ErrPlan {
		t.Errorf("CheckPlan of one start: %d", e)
	}
	three := hunt(3, 1, 2, aircraft(0, 2, 1), aircraft(1, 2, 1), aircraft(2, 2, 1))
	for _, p := range [][][]int{{{0, 1}, {1, 1}, {2, 2}}, {{0, 2}, {1, 1}, {2, 2}}, {{0, 0}, {1, 2}, {2, 2}}, {{0, 1}, {1, 1}, {2, 1}}} {
		if e := sweep.CheckPlan(three, p); e != api.ErrPlan {
			t.Errorf("CheckPlan of %v: %d", p, e)
		}
	}
}

// TestCheckPlan is P4.1 of plans that are valid: units may change places, and an aircraft goes anywhere.
func TestCheckPlan(t *testing.T) {
	for i, x := range []struct {
		h    api.Hunt
		plan [][]int
	}{
		{first(), plan()}, {first(), [][]int{{4, 4, 4}, {10, 11, 7}}}, {first(), [][]int{{4, 9, 10}, {10, 5, 6}}},
		{hunt(2, 1, 3, aircraft(0, 1, 1), aircraft(1, 1, 1)), [][]int{{0, 1, 0}, {1, 0, 1}}},
		{hunt(3, 1, 2, boat(0, 2, 50, 1), boat(1, 2, 50, 1), boat(2, 2, 50, 1)), [][]int{{0, 1}, {1, 2}, {2, 0}}},
		{hunt(4, 1, 2, aircraft(0, 3, 1)), [][]int{{0, 3}}}, {hunt(4, 1, 8, aircraft(2, 0, 1)), [][]int{{2, 2, 2, 2, 2, 2, 2, 2}}},
		{api.Hunt{Drift: calm(4, 4, -1000, 2), Ticks: 2, Units: []api.Unit{aircraft(5, 2, 1)}}, [][]int{{5, 14}}},
	} {
		if e := sweep.CheckPlan(x.h, x.plan); e != api.OK {
			t.Errorf("%d: CheckPlan: %d", i, e)
		}
	}
}

// TestReach is P4.1: each reach from 0 to 3, in a row of cells over water and land alike.
func TestReach(t *testing.T) {
	h := hunt(7, 1, 2, boat(0, 0, 5, 50))
	h.Drift.Chart.Depth[1], h.Drift.Chart.Depth[2] = -50, -50
	for reach := range 4 {
		for from := range 7 {
			for to := range 7 {
				h.Units[0] = boat(from, reach, 5, 50)
				isDry := from == 1 || from == 2 || to == 1 || to == 2
				want := api.ErrPlan
				if !isDry && max(from-to, to-from) <= reach {
					want = api.OK
				}
				if e := sweep.CheckPlan(h, [][]int{{from, to}}); e != want {
					t.Errorf("CheckPlan from %d to %d with the reach %d: %d", from, to, reach, e)
				}
			}
		}
	}
}

// TestAfloat is P4.1: a boat has to float surely, in each of its ticks.
func TestAfloat(t *testing.T) {
	h := hunt(1, 1, 3, boat(0, 1, 10, 50))
	for tick := range 3 {
		for depth, want := range map[int]api.Errno{9: api.ErrPlan, 10: api.ErrPlan, 11: api.ErrPlan, 12: api.OK, 13: api.OK} {
			c := &h.Drift.Chart
			c.Depth[0], c.Tide, c.Swell = depth, slices.Repeat([]api.Span{span(50, 60)}, 3), make([]int, 3)
			c.Tide[tick], c.Swell[tick] = span(1, 9), 3 // the water is at least two less than the depth
			h.Units[0].Draught = 10
			if e := sweep.CheckPlan(h, [][]int{{0, 0, 0}}); e != want {
				t.Errorf("CheckPlan with the depth %d in %d: %d", depth, tick, e)
			}
			h.Units[0].Draught = 0
			if e := sweep.CheckPlan(h, [][]int{{0, 0, 0}}); e != api.OK {
				t.Errorf("CheckPlan of an aircraft over the depth %d: %d", depth, e)
			}
		}
	}
}

// TestPlansOneByOne holds CheckPlan against the chapter's words, for plans that are valid, and for those with one change.
func TestPlansOneByOne(t *testing.T) {
	r := rand.New(rand.NewPCG(5, 5))
	found := map[api.Errno]int{}
	for _, p := range planned(puzzles(1, 400, 4, 3, 8, 1)) {
		m := look(p.h)
		for range 20 {
			plan := slices.Clone(p.plan)
			i := r.IntN(len(plan))
			plan[i] = slices.Clone(plan[i])
			plan[i][r.IntN(p.h.Ticks)] = r.IntN(len(m.apart))
			want := api.ErrPlan
			if m.isPlan(plan) {
				want = api.OK
			}
			if e := sweep.CheckPlan(p.h, plan); e != want {
				t.Fatalf("CheckPlan(%v, %v): %d", p.h, plan, e)
			}
			found[want]++
		}
		if e := sweep.CheckPlan(p.h, p.plan); e != api.OK {
			t.Fatalf("CheckPlan(%v, %v): %d", p.h, p.plan, e)
		}
	}
	if len(found) != 2 || slices.Min(slices.Collect(maps.Values(found))) < 1000 {
		t.Errorf("found %v", found)
	}
}

// badParticles are particles that are not valid for H.
func badParticles() named[[]api.Particle] {
	l := named[[]api.Particle]{"none": nil, "empty": {}}
	good := particle(1, 4, 5, 6)
	for _, p := range []api.Particle{
		{}, particle(0, 4, 5, 6), particle(-1, 4, 5, 6), particle(801, 4, 5, 6), particle(math.MinInt, 4, 5, 6), particle(math.MaxInt, 4, 5, 6),
		particle(1), particle(1, 4, 5), particle(1, 4, 5, 6, 7), particle(1, 4, 4, 4, 4, 4), particle(1, 4, 5, 12), particle(1, 4, -2, 6), particle(1, math.MinInt, 5, 6), particle(1, 4, 5, math.MaxInt),
	} {
		l.add("alone", []api.Particle{p})
		l.add("last", []api.Particle{good, good, p})
		l.add("first", []api.Particle{p, good})
	}
	l.add("thirteen", slices.Repeat([]api.Particle{good}, 13))
	l.add("801", []api.Particle{particle(400, 4, 5, 6), particle(401, 4, 5, 6)})
	l.add("1200", slices.Repeat([]api.Particle{particle(100, 4, 5, 6)}, 12))
	l.add("around", []api.Particle{particle(math.MaxInt, 4, 5, 6), particle(math.MaxInt, 4, 5, 6), particle(3, 4, 5, 6)})
	l.add("less", []api.Particle{particle(801, 4, 5, 6), particle(-1, 4, 5, 6)})
	return l
}

// goodParticles are particles that are just valid for H.
func goodParticles() [][]api.Particle {
	return [][]api.Particle{
		targets(), {particle(1, -1, -1, -1)}, {particle(800, 0, 11, -1)}, {particle(799, 4, 5, 6), particle(1, 4, 5, 6)}, slices.Repeat(targets()[:1], 12),
		slices.Repeat([]api.Particle{particle(66, 11, 0, 11)}, 12), {particle(1, -1, 4, -1)},
	}
}

// TestParticles: which particles are valid.
func TestParticles(t *testing.T) {
	for name, l := range badParticles() {
		if s, e := sweep.Found(first(), l, plan()); e != api.ErrParticle || s != share(0, 0) {
			t.Errorf("%s: Found = %v, %d", name, s, e)
		}
	}
	for _, l := range goodParticles() {
		mustFound(t, first(), l, plan())
		mustBest(t, first(), l)
	}
}

func badRules() []api.Rule {
	return []api.Rule{
		{Percent: -1}, {Percent: 101}, {Percent: math.MinInt}, {Percent: math.MaxInt}, {Hope: -1}, {Hope: 61}, {Hope: math.MinInt}, {Hope: math.MaxInt},
		{Percent: 101, Hope: 61}, {Percent: 100, Hope: 61}, {Percent: -1, Hope: 60},
	}
}

// TestRules: which rules are valid; Hope may be more than the ticks of the search, and of the chart.
func TestRules(t *testing.T) {
	for _, r := range badRules() {
		if n, reason, e := sweep.Ends(first(), targets(), plan(), r); e != api.ErrRule || n != 0 || reason != 0 {
			t.Errorf("Ends by %v = %d, %d, %d", r, n, reason, e)
		}
	}
	for _, r := range [][2]int{{0, 0}, {0, 60}, {100, 0}, {100, 60}, {50, 4}, {50, 6}} {
		mustEnds(t, first(), targets(), plan(), r[0], r[1])
	}
}
