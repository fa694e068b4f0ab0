package sweep_test

import (
	"math/big"
	"math/rand/v2"
	"slices"
	"testing"

	"coble/api"
	"coble/chart"
	"coble/drift"
	"coble/sweep"
)

// wander returns a plan that goes on by chance from a tick on; nil, if that comes to an end too early.
func wander(r *rand.Rand, h api.Hunt, plan [][]int, from int) [][]int {
	m := look(h)
	var next [][]int
	for _, cells := range plan {
		next = append(next, slices.Clone(cells[:from]))
	}
	for tick := from; tick < h.Ticks; tick++ {
		var f fleet
		for i := range next {
			f[i] = next[i][tick-1]
		}
		all := slices.Collect(m.next(f, tick))
		if len(all) == 0 {
			return nil
		}
		f = all[r.IntN(len(all))]
		for i := range next {
			next[i] = append(next[i], f[i])
		}
	}
	return next
}

// TestBestPlan is P4.9 and P4.10 of larger searches: no plan that is tried by chance has a greater chance, and none has one
// that is greater by more than Better finds.
func TestBestPlan(t *testing.T) {
	r := rand.New(rand.NewPCG(6, 6))
	for _, l := range [][]puzzle{chases(11, 4, 12, 1, 8, 3, 12), chases(12, 3, 9, 2, 4, 2, 12), chases(13, 3, 8, 3, 2, 2, 12)} {
		for _, p := range l {
			best, s, e := sweep.Best(p.h, p.l)
			if e != api.OK {
				continue
			}
			holdApart(t, p.h, best)
			for range 5 {
				plan := wander(r, p.h, best, 1+r.IntN(p.h.Ticks-1))
				old := mustFound(t, p.h, p.l, plan)
				if compare(old, s) > 0 {
					t.Fatalf("%v of %v is better than %v", plan, p, best)
				}
				gain := rat(s)
				gain.Sub(gain, rat(old)).Mul(gain, big.NewRat(100, 1))
				percent := int(new(big.Int).Quo(gain.Num(), gain.Denom()).Int64())
				if percent > 0 {
					plan, e := sweep.Better(p.h, p.l, plan, percent)
					if e != api.OK {
						t.Fatalf("Better(%v, %v) by %d = %d", p, plan, percent, e)
					}
					holdApart(t, p.h, plan)
				}
				if _, e := sweep.Better(p.h, p.l, plan, min(100, percent+1)); percent < 100 && e != api.ErrNone {
					t.Fatalf("Better(%v, %v) by %d = %d", p, plan, percent+1, e)
				}
			}
		}
	}
}

// holdApart is P4.10: no two units are in one cell, each boat surely floats and goes no further than it can; P0.3: a boat that
// goes one cell at most goes by a passage.
func holdApart(t *testing.T, h api.Hunt, plan [][]int) {
	t.Helper()
	for tick := range h.Ticks {
		for i, u := range h.Units {
			for k := range i {
				if plan[i][tick] == plan[k][tick] {
					t.Fatalf("%v of %v: two units in %d", plan, h, tick)
				}
			}
			if n, e := chart.Apart(h.Drift.Chart, plan[i][max(0, tick-1)], plan[i][tick]); n > u.Reach || e != api.OK {
				t.Fatalf("%v of %v: too far in %d", plan, h, tick)
			}
			if u.Draught == 0 {
				continue
			}
			if sure, _, e := chart.Floats(h.Drift.Chart, u.Draught, plan[i][tick], tick); !sure || e != api.OK {
				t.Fatalf("%v of %v: aground in %d", plan, h, tick)
			}
			if u.Reach <= 1 {
				if l, e := chart.Arrive(h.Drift.Chart, u.Draught, u.Cell, 0); e != api.OK || l[plan[i][tick]] > tick || l[plan[i][tick]] < 0 {
					t.Fatalf("%v of %v: in %d there is no passage: %v", plan, h, tick, l)
				}
			}
		}
	}
}

// TestNoTwo is P4.10 of the plans of all puzzles.
func TestNoTwo(t *testing.T) {
	n := 0
	for _, p := range puzzles(7, 1000, 5, 4, 6, 6) {
		if plan, _, e := sweep.Best(p.h, p.l); e == api.OK {
			holdApart(t, p.h, plan)
		}
		if p.plan == nil {
			continue
		}
		if plan, e := sweep.Better(p.h, p.l, p.plan, 1); e == api.OK {
			holdApart(t, p.h, plan)
			n++
		}
	}
	if n < 200 {
		t.Errorf("%d better plans", n)
	}
}

// TestWithMore is P4.11: a tick more, a unit more, or a greater chance.
func TestWithMore(t *testing.T) {
	r := rand.New(rand.NewPCG(8, 8))
	n := 0
	for _, p := range planned(puzzles(8, 800, 4, 3, 6, 8)) {
		old := mustFound(t, p.h, p.l, p.plan)
		if h, plan := shorter(p, p.h.Ticks-1); h.Ticks > 0 {
			if s := mustFound(t, h, cut(p.l, h.Ticks), plan); compare(s, old) > 0 {
				t.Fatalf("Found(%v) with a tick less = %v, not %v", p, s, old)
			}
		}
		for i := range p.h.Units {
			h := copied(p.h)
			h.Units[i].Chance += r.IntN(101 - h.Units[i].Chance)
			if s := mustFound(t, h, p.l, p.plan); compare(s, old) < 0 {
				t.Fatalf("Found(%v) with a greater chance = %v, not %v", p, s, old)
			}
			if len(p.h.Units) > 1 {
				h := copied(p.h)
				h.Units = slices.Delete(h.Units, i, i+1)
				if s := mustFound(t, h, p.l, slices.Delete(slices.Clone(p.plan), i, i+1)); compare(s, old) > 0 {
					t.Fatalf("Found(%v) with a unit less = %v, not %v", p, s, old)
				}
				n++
			}
		}
	}
	if n < 200 {
		t.Errorf("%d units", n)
	}
}

// shorter returns the search for the first ticks alone.
func shorter(p puzzle, ticks int) (api.Hunt, [][]int) {
	var plan [][]int
	for _, cells := range p.plan {
		plan = append(plan, cells[:ticks])
	}
	p.h.Ticks = ticks
	return p.h, plan
}

// cut returns the particles of the first ticks alone.
func cut(l []api.Particle, ticks int) []api.Particle {
	l = slices.Clone(l)
	for i := range l {
		l[i].Cells = l[i].Cells[:ticks]
	}
	return l
}

// TestForTheFirstTime is P4.11: the chance is the sum of the chances that the target is detected first in each of the ticks,
// which are asked of what is left until then.
func TestForTheFirstTime(t *testing.T) {
	n := 0
	for _, p := range planned(puzzles(9, 400, 4, 3, 8, 8)) {
		sum, until := new(big.Rat), big.NewRat(1, 1)
		for tick := range p.h.Ticks {
			left := targetsLeft(p, tick)
			if left == nil {
				break // it has been detected for sure
			}
			now := new(big.Rat)
			for i, x := range p.l {
				miss := big.NewRat(1, 1)
				for k, u := range p.h.Units {
					if p.plan[k][tick] == x.Cells[tick] {
						miss.Mul(miss, big.NewRat(int64(100-u.Chance), 100))
					}
				}
				now.Add(now, miss.Sub(big.NewRat(1, 1), miss).Mul(miss, left[i]))
			}
			sum.Add(sum, new(big.Rat).Mul(until, now))
			until.Mul(until, now.Sub(big.NewRat(1, 1), now))
			n++
		}
		if s := mustFound(t, p.h, p.l, p.plan); rat(s).Cmp(sum) != 0 {
			t.Fatalf("Found(%v) = %v, not %v", p, s, sum)
		}
	}
	if n < 500 {
		t.Errorf("%d ticks", n)
	}
}

// targetsLeft returns what Left answers after some ticks; nil, if there is nothing left.
func targetsLeft(p puzzle, ticks int) []*big.Rat {
	var l []*big.Rat
	if ticks == 0 {
		sum := 0
		for _, x := range p.l {
			sum += x.Weight
		}
		for _, x := range p.l {
			l = append(l, big.NewRat(int64(x.Weight), int64(sum)))
		}
		return l
	}
	h, plan := shorter(p, ticks)
	shares, _ := sweep.Left(h, cut(p.l, ticks), plan)
	for _, s := range shares {
		l = append(l, rat(s))
	}
	return l
}

// TestWhatIsLeft is P4.12: the chances add up to 1, and where nobody looks they do not become less.
func TestWhatIsLeft(t *testing.T) {
	n := 0
	for _, p := range planned(puzzles(10, 600, 5, 3, 8, 12)) {
		left := targetsLeft(p, p.h.Ticks)
		if left == nil {
			continue
		}
		sum := new(big.Rat)
		for i, before := range targetsLeft(p, 0) {
			sum.Add(sum, left[i])
			seen := false
			for tick, cell := range p.l[i].Cells {
				for _, cells := range p.plan {
					seen = seen || cells[tick] == cell
				}
			}
			if !seen {
				n++
				if left[i].Cmp(before) < 0 {
					t.Fatalf("Left(%v) of %d = %v, before %v", p, i, left[i], before)
				}
			}
		}
		if sum.Cmp(big.NewRat(1, 1)) != 0 {
			t.Fatalf("Left(%v) = %v", p, left)
		}
	}
	if n < 500 {
		t.Errorf("%d particles that nobody looks for", n)
	}
}

// TestWhereverItDrifts is P4.13 on larger charts: histories that drift finds are detected with a chance of at least Sure, and
// so is what is among them; Hide returns one of them. P0.2: units that detect all find a target for sure exactly if no
// history agrees with all their looks.
func TestWhereverItDrifts(t *testing.T) {
	n, found := 0, 0
	for _, p := range planned(puzzles(11, 250, 7, 6, 6, 1)) {
		places, e := drift.Places(p.h.Drift, p.x, p.seen)
		if e != api.OK {
			continue
		}
		sure, hide := mustSure(t, p), mustHide(t, p)
		if p.detected(hide) != sure || !isPossible(p, hide) {
			t.Fatalf("Hide(%v) = %v, detected %v, not %v", p, hide, p.detected(hide), sure)
		}
		var l []api.Particle
		for i, cells := range places {
			h := history{}
			h.leeway, h.cells, _ = drift.History(p.h.Drift, p.x, p.seen, cells[len(cells)/2], p.x.At+i)
			if compare(p.detected(h), sure) < 0 {
				t.Fatalf("Sure(%v) = %v, but of %v it is %v", p, sure, h, p.detected(h))
			}
			l = append(l, api.Particle{Weight: 1 + i, Cells: p.path(h)})
		}
		if s := mustFound(t, p.h, l, p.plan); compare(s, sure) < 0 {
			t.Fatalf("Sure(%v) = %v, but of %v it is %v", p, sure, l, s)
		}
		holdSharp(t, p, &found)
		n++
	}
	if n < 60 || found < 3 {
		t.Errorf("%d drifters, %d of them found for sure", n, found)
	}
}

// isPossible follows a history step by step.
func isPossible(p puzzle, h history) bool {
	if len(h.cells) != len(p.h.Drift.Chart.Tide)-p.x.At || !slices.Contains(p.x.Cells, h.cells[0]) || h.leeway < p.x.Leeway.Low || h.leeway > p.x.Leeway.High {
		return false
	}
	for i, place := range h.cells {
		tick := p.x.At + i
		if !agrees(p.seen, tick, place) {
			return false
		}
		if i > 0 {
			if l, _ := drift.Step(p.h.Drift, h.cells[i-1], tick-1, h.leeway); !slices.Contains(l, place) {
				return false
			}
		}
	}
	return true
}

// holdSharp is P0.2: the looks are sightings of nothing.
func holdSharp(t *testing.T, p puzzle, found *int) {
	t.Helper()
	p.h = copied(p.h)
	for i := range p.h.Units {
		p.h.Units[i].Chance = 100
	}
	seen := slices.Clone(p.seen)
	for tick := p.x.At; tick < p.h.Ticks; tick++ {
		var cells []int
		for i := range p.plan {
			cells = append(cells, p.plan[i][tick])
		}
		slices.Sort(cells)
		seen = append(seen, api.Sighting{Tick: tick, Cells: cells})
	}
	want := share(0, 1)
	if _, e := drift.Leeways(p.h.Drift, p.x, seen); e == api.ErrNone {
		want = share(1, 1)
		*found++
	}
	if s := mustSure(t, p); s != want {
		t.Fatalf("Sure(%v) of who detects all = %v", p, s)
	}
}

// TestByItsRule is P4.14: before the ticks that Ends returns the rule does not end the search, and with a greater Percent or
// Hope it does not end earlier.
func TestByItsRule(t *testing.T) {
	for _, p := range planned(puzzles(12, 200, 4, 3, 8, 6)) {
		for percent := 0; percent <= 90; percent += 10 {
			for hope := range 9 {
				n, reason := mustEnds(t, p.h, p.l, p.plan, percent, hope)
				for ticks := range n {
					if compare(look(p.h).chance(p.l, p.plan, ticks), ratio(percent, 100)) >= 0 || ticks >= hope {
						t.Fatalf("Ends(%v) by %d, %d = %d, but it ends after %d", p, percent, hope, n, ticks)
					}
				}
				if reason == 0 && n != p.h.Ticks {
					t.Fatalf("Ends(%v) by %d, %d = %d, 0", p, percent, hope, n)
				}
				a, _ := mustEnds(t, p.h, p.l, p.plan, percent+10, hope)
				b, _ := mustEnds(t, p.h, p.l, p.plan, percent, hope+1)
				if a < n || b < n {
					t.Fatalf("Ends(%v) by %d, %d = %d, with more %d and %d", p, percent, hope, n, a, b)
				}
			}
		}
	}
}
