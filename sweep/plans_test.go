package sweep_test

import (
	"math/rand/v2"
	"slices"
	"testing"

	"coble/api"
	"coble/sweep"
)

// noPlan holds that Best finds no plan.
func noPlan(t *testing.T, name string, h api.Hunt, l []api.Particle) {
	t.Helper()
	if p, s, e := sweep.Best(h, l); e != api.ErrNone || len(p) > 0 || s != share(0, 0) {
		t.Errorf("%s: Best = %v, %v, %d", name, p, s, e)
	}
}

// TestBest is P4.4 in a row of cells.
func TestBest(t *testing.T) {
	for i, x := range []struct {
		h    api.Hunt
		l    []api.Particle
		want api.Share
	}{
		{hunt(5, 1, 1, aircraft(2, 1, 50)), []api.Particle{particle(1, 2)}, share(1, 2)},       // it is there at once
		{hunt(5, 1, 1, aircraft(2, 1, 50)), []api.Particle{particle(1, 3)}, share(0, 1)},       // it cannot be there yet
		{hunt(5, 1, 2, aircraft(2, 1, 50)), []api.Particle{particle(1, 3, 3)}, share(1, 2)},    // it can in the next tick
		{hunt(5, 1, 2, aircraft(2, 1, 50)), []api.Particle{particle(1, 4, 4)}, share(0, 1)},    // it is too far
		{hunt(5, 1, 2, aircraft(2, 2, 50)), []api.Particle{particle(1, 4, 4)}, share(1, 2)},    // it is not
		{hunt(5, 1, 3, aircraft(2, 1, 50)), []api.Particle{particle(1, 4, 3, 2)}, share(3, 4)}, // it meets it half way
		{hunt(5, 1, 3, aircraft(2, 1, 50)), []api.Particle{particle(1, 0, 0, 4)}, share(1, 2)}, // it passes by empty cells
		{hunt(5, 1, 3, aircraft(2, 1, 50)), []api.Particle{particle(3, 1, 1, 1), particle(2, 3, 3, 3)}, share(9, 20)},
		{hunt(5, 1, 3, aircraft(2, 2, 50)), []api.Particle{particle(3, 1, 1, 1), particle(2, 3, 3, 3)}, share(1, 2)}, // one after the other
		{hunt(5, 1, 3, aircraft(2, 2, 50)), []api.Particle{particle(5, 1, 1, 1), particle(2, 3, 3, 3)}, share(15, 28)},
		{hunt(5, 1, 2, aircraft(1, 1, 50), aircraft(3, 1, 50)), []api.Particle{particle(1, 2, 2)}, share(1, 2)}, // one alone can be there
		{hunt(5, 1, 2, aircraft(1, 1, 50), aircraft(3, 1, 80)), []api.Particle{particle(1, 2, 2)}, share(4, 5)}, // the better one
		{hunt(5, 1, 2, aircraft(1, 1, 80), aircraft(3, 1, 50)), []api.Particle{particle(1, 2, 2)}, share(4, 5)},
		{hunt(5, 1, 3, aircraft(1, 1, 50), aircraft(3, 1, 80)), []api.Particle{particle(1, 2, 2, 2)}, share(24, 25)}, // twice
		{hunt(5, 1, 3, aircraft(1, 1, 50), aircraft(3, 1, 80)), []api.Particle{particle(1, 2, 2, 3)}, share(24, 25)},
		{hunt(5, 1, 2, aircraft(1, 1, 50), aircraft(2, 1, 80)), []api.Particle{particle(9, 2, 1), particle(1, 1, 2)}, share(939, 1000)}, // they change places
	} {
		if p, s := mustBest(t, x.h, x.l); s != x.want {
			t.Errorf("%d: Best = %v, %v", i, p, s)
		}
	}
}

// TestInTheWay is P4.4 and P4.10: a unit that would be of no use elsewhere leaves the cell to the other one.
func TestInTheWay(t *testing.T) {
	// a row of three cells, with a unit of no use in the middle
	h := hunt(3, 1, 2, aircraft(1, 1, 0), aircraft(2, 1, 50))
	if p, s := mustBest(t, h, []api.Particle{particle(1, 1, 1)}); s != share(1, 2) || p[0][1] == 1 {
		t.Errorf("Best = %v, %v", p, s)
	}
	// it cannot go away
	h.Units[0].Reach = 0
	if p, s := mustBest(t, h, []api.Particle{particle(1, 1, 1)}); s != share(0, 1) {
		t.Errorf("Best = %v, %v", p, s)
	}
	// it is a boat that has no other cell
	h.Units[0] = boat(1, 1, 10, 0)
	h.Drift.Chart.Depth = []int{5, 50, 5}
	if p, s := mustBest(t, h, []api.Particle{particle(1, 1, 1)}); s != share(0, 1) {
		t.Errorf("Best = %v, %v", p, s)
	}
	// of three units the one with the greatest chance has the cell, whichever it is
	for i := range 3 {
		h := hunt(3, 2, 2, aircraft(0, 3, 20), aircraft(2, 3, 20), aircraft(4, 3, 20))
		h.Units[i].Chance = 90
		if p, s := mustBest(t, h, []api.Particle{particle(1, -1, 1)}); s != share(9, 10) || p[i][1] != 1 {
			t.Errorf("Best with %d = %v, %v", i, p, s)
		}
	}
}

// TestNoPlan is the ErrNone of P4.4.
func TestNoPlan(t *testing.T) {
	all := []api.Particle{particle(1, -1, -1, -1)}
	noPlan(t, "one start", hunt(3, 1, 3, aircraft(1, 1, 50), aircraft(1, 1, 50)), all)
	for tick := range 3 {
		h := hunt(3, 3, 3, boat(4, 1, 50, 50))
		h.Drift.Chart.Tide, h.Drift.Chart.Depth = slices.Repeat([]api.Span{span(0, 1)}, 3), slices.Repeat([]int{50}, 9)
		mustBest(t, h, all)
		h.Drift.Chart.Swell[tick] = 1
		noPlan(t, "all is aground", h, all)
		h.Drift.Chart.Tide[tick] = span(1, 1)
		mustBest(t, h, all)
		// in this tick there is one cell that is deep enough
		for cell := range 9 {
			h.Drift.Chart.Tide[tick] = span(0, 1)
			h.Drift.Chart.Depth = slices.Repeat([]int{50}, 9)
			h.Drift.Chart.Depth[cell] = 51
			if look(h).apart[4][cell] <= tick {
				if p, _ := mustBest(t, h, all); p[0][tick] != cell {
					t.Errorf("Best with the cell %d in %d = %v", cell, tick, p)
				}
			} else {
				noPlan(t, "too far", h, all)
			}
			h.Units = []api.Unit{boat(4, 1, 50, 50), boat(1, 3, 50, 50)}
			noPlan(t, "one cell for two", h, all)
			h.Units = h.Units[:1]
		}
	}
	if p, e := sweep.Better(hunt(1, 1, 1, aircraft(0, 1, 50)), []api.Particle{particle(1, 0)}, [][]int{{0}}, 1); e != api.ErrNone || len(p) > 0 {
		t.Errorf("Better than the only plan = %v, %d", p, e)
	}
}

// TestStay is P4.4: a boat must not go where it has no way on, even if it would find most there.
func TestStay(t *testing.T) {
	h := hunt(3, 1, 3, boat(1, 1, 10, 100))
	h.Drift.Chart.Tide = []api.Span{span(0, 0), span(0, 0), span(0, 60)}
	h.Drift.Chart.Depth = []int{20, 20, 20}
	h.Drift.Chart.Swell = []int{0, 0, 10} // in the tick 2 no cell is deep enough but the cell 0
	h.Drift.Chart.Depth[0] = 25
	h.Units[0].Draught = 15
	l := []api.Particle{particle(9, 2, 2, 2), particle(1, 0, 1, 0)}
	if p, s := mustBest(t, h, l); s != share(1, 10) || p[0][2] != 0 {
		t.Errorf("Best = %v, %v", p, s)
	}
}

// TestBetter is P4.5: by how much a plan is better is counted in percent of 1, not of its chance.
func TestBetter(t *testing.T) {
	h := hunt(3, 1, 1, aircraft(1, 0, 50))
	h.Drift, h.Ticks = calm(3, 1, 50, 2), 2
	h.Units[0].Reach = 1
	for _, x := range []struct {
		l     []api.Particle
		plan  []int
		least int // percent that are just to be had
	}{
		{[]api.Particle{particle(1, 1, 1)}, []int{1, 0}, 25}, {[]api.Particle{particle(1, 1, 1)}, []int{1, 1}, 0}, {[]api.Particle{particle(1, 0, 0)}, []int{1, 1}, 50},
		{[]api.Particle{particle(1, 0, 0)}, []int{1, 0}, 0}, {[]api.Particle{particle(1, 0, 0), particle(1, 1, 2)}, []int{1, 1}, 25},
		{[]api.Particle{particle(3, 0, 0), particle(97, 1, 1)}, []int{1, 0}, 22}, // 0.485 + 0.015 and 0.485 + 0.2425: by 22.75
		{[]api.Particle{particle(2, 0, 0), particle(98, 1, 1)}, []int{1, 0}, 23}, // 0.49 + 0.01 and 0.49 + 0.245: by 23.5
		{[]api.Particle{particle(4, 0, 0), particle(96, 1, 1)}, []int{1, 0}, 22}, // 0.48 + 0.02 and 0.48 + 0.24: by 22
	} {
		old := mustFound(t, h, x.l, [][]int{x.plan})
		for percent := 1; percent <= 100; percent++ {
			p, e := sweep.Better(h, x.l, [][]int{x.plan}, percent)
			if percent > x.least {
				if e != api.ErrNone || len(p) > 0 {
					t.Errorf("Better than %v by %d = %v, %d", x, percent, p, e)
				}
				continue
			}
			if e != api.OK || !look(h).isPlan(p) {
				t.Errorf("Better than %v by %d = %v, %d", x, percent, p, e)
			} else if s := rat(mustFound(t, h, x.l, p)); s.Sub(s, rat(old)).Cmp(rat(ratio(percent, 100))) < 0 {
				t.Errorf("Better than %v by %d = %v, by %v", x, percent, p, s)
			}
		}
	}
	sure := hunt(2, 1, 2, aircraft(0, 1, 100))
	if p, e := sweep.Better(sure, []api.Particle{particle(800, 1, 1)}, [][]int{{0, 0}}, 100); e != api.OK || !slices.Equal(p[0], []int{0, 1}) {
		t.Errorf("Better by 100 = %v, %d", p, e)
	}
}

// TestBestOneByOne is P4.4 and P4.9: Best and Better against all that the units can do.
func TestBestOneByOne(t *testing.T) {
	found := map[api.Errno]int{}
	for _, p := range puzzles(3, 1500, 4, 3, 8, 7) {
		want, ok := look(p.h).best(p.l)
		if !ok {
			noPlan(t, "puzzle", p.h, p.l)
			found[api.ErrNone]++
			continue
		}
		if plan, s := mustBest(t, p.h, p.l); s != want {
			t.Fatalf("Best(%v) = %v, %v, not %v", p, plan, s, want)
		}
		found[api.OK]++
		if p.plan != nil {
			holdBetter(t, p, want)
		}
	}
	if found[api.OK] < 700 || found[api.ErrNone] < 300 {
		t.Errorf("found %v", found)
	}
}

// holdBetter asks for just as much as there is, and for more.
func holdBetter(t *testing.T, p puzzle, best api.Share) {
	t.Helper()
	m := look(p.h)
	gain := rat(best)
	gain.Sub(gain, rat(m.chance(p.l, p.plan, p.h.Ticks)))
	for _, percent := range []int{1, 2, 5, 10, 11, 20, 25, 50, 51, 75, 100} {
		plan, e := sweep.Better(p.h, p.l, p.plan, percent)
		if gain.Cmp(rat(ratio(percent, 100))) < 0 {
			if e != api.ErrNone || len(plan) > 0 {
				t.Fatalf("Better(%v) by %d = %v, %d", p, percent, plan, e)
			}
			continue
		}
		if e != api.OK || !m.isPlan(plan) {
			t.Fatalf("Better(%v) by %d = %v, %d", p, percent, plan, e)
		}
		now := rat(m.chance(p.l, plan, p.h.Ticks))
		if now.Sub(now, rat(m.chance(p.l, p.plan, p.h.Ticks))).Cmp(rat(ratio(percent, 100))) < 0 {
			t.Fatalf("Better(%v) by %d = %v, by %v", p, percent, plan, now)
		}
	}
}

// TestSameWorth is P4.4: to have detected the one is worth as much as to have detected the other one, but only one of them comes
// again. What comes last is too far from what comes before it.
func TestSameWorth(t *testing.T) {
	for again := range 2 {
		h := hunt(5, 1, 5, aircraft(2, 1, 50))
		l := []api.Particle{
			particle(1, -1, 1, -1, -1, -1), particle(1, -1, 3, -1, -1, -1), particle(1, -1, -1, 2, -1, -1), particle(1, -1, -1, -1, 1, -1), particle(1, -1, -1, -1, -1, 4),
		}
		l[again].Cells[4] = 2
		if p, s := mustBest(t, h, l); s != share(2, 5) || p[0][1] != 3-2*again {
			t.Errorf("Best if %d comes again = %v, %v", again, p, s)
		}
	}
}

// chases are searches on deep water for many particles that move about.
func chases(seed uint64, n, side, units, ticks, reach, particles int) []puzzle {
	r := rand.New(rand.NewPCG(seed, 44))
	var l []puzzle
	for range n {
		p := puzzle{h: hunt(side, side, ticks)}
		for range units {
			p.h.Units = append(p.h.Units, aircraft(r.IntN(side*side), reach, []int{5, 30, 50, 50, 80, 100}[r.IntN(6)]))
		}
		beside := look(p.h).apart
		for range particles {
			x := api.Particle{Weight: 1 + r.IntN(66)}
			cell := r.IntN(side * side)
			for range ticks {
				x.Cells = append(x.Cells, cell)
				if next := r.IntN(side * side); beside[cell][next] <= 2 {
					cell = next
				}
			}
			p.l = append(p.l, x)
		}
		l = append(l, p)
	}
	return l
}

// alike returns puzzles in which all particles have the same weight.
func alike(l []puzzle) []puzzle {
	for _, p := range l {
		for i := range p.l {
			p.l[i].Weight = 1
		}
	}
	return l
}

// moored returns puzzles in which the first unit stays where it is.
func moored(l []puzzle) []puzzle {
	for _, p := range l {
		p.h.Units[0].Reach = 0
	}
	return l
}

// TestChases is P4.4 and P4.9 for searches with more choices.
func TestChases(t *testing.T) {
	for _, l := range [][]puzzle{
		chases(1, 12, 5, 1, 8, 1, 6), chases(2, 8, 6, 1, 6, 2, 8), chases(3, 6, 7, 1, 5, 3, 12), chases(4, 6, 4, 2, 4, 1, 8), chases(5, 3, 4, 2, 3, 3, 12),
		chases(6, 3, 4, 3, 2, 3, 12), chases(7, 4, 12, 1, 8, 1, 4), alike(chases(8, 6, 5, 1, 7, 1, 7)), alike(chases(9, 3, 4, 2, 4, 1, 9)),
		moored(chases(4, 1, 6, 2, 4, 3, 12)), moored(chases(10, 4, 5, 3, 2, 3, 12)),
	} {
		for _, p := range l {
			want, ok := look(p.h).best(p.l)
			if !ok {
				noPlan(t, "chase", p.h, p.l)
				continue
			}
			if plan, s := mustBest(t, p.h, p.l); s != want {
				t.Fatalf("Best(%v) = %v, %v, not %v", p, plan, s, want)
			}
		}
	}
}
