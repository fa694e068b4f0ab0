package sweep_test

import (
	"math/rand/v2"
	"slices"
	"testing"

	"coble/api"
	"coble/sweep"
)

func span(low, high int) api.Span { return api.Span{Low: low, High: high} }

func share(over, under int) api.Share { return api.Share{Over: over, Under: under} }

// first is the hunt H of the chapter's examples.
func first() api.Hunt {
	d := calm(4, 3, 0, 5)
	d.Chart.Depth = []int{0, 0, -50, -90, 30, 20, 10, -20, 60, 60, 40, 30}
	d.Chart.Tide = []api.Span{span(10, 14), span(20, 26), span(30, 36), span(20, 26), span(10, 14)}
	d.Chart.Swell = slices.Repeat([]int{5}, 5)
	d.Zones = []int{1, 1, 1, 1, 0, 0, 0, 0, 0, 0, 0, 0}
	d.Currents = [][]api.Push{slices.Repeat([]api.Push{{Dirs: 1, Steps: span(0, 1)}}, 4), slices.Repeat([]api.Push{{Dirs: 1}}, 4)}
	d.Wind = slices.Repeat([]api.Push{{Dirs: 2, Steps: span(0, 2)}}, 4)
	return api.Hunt{Drift: d, Ticks: 3, Units: []api.Unit{{Cell: 4, Reach: 1, Draught: 20, Chance: 50}, {Cell: 10, Reach: 1, Chance: 80}}}
}

// targets are the particles L of the chapter's examples.
func targets() []api.Particle { return []api.Particle{particle(3, 4, 5, 6), particle(1, 4, 9, 10)} }

// plan is the plan P of the chapter's examples.
func plan() [][]int { return [][]int{{4, 5, 6}, {10, 10, 10}} }

// drifter is X of the chapter's examples.
func drifter() api.Drifter { return api.Drifter{Cells: []int{4}, Leeway: span(2, 4)} }

// sightings are S of the chapter's examples.
func sightings() []api.Sighting {
	return []api.Sighting{{Tick: 1, Cells: []int{4, 5}}, {Tick: 2, Cells: []int{10}, Seen: true}}
}

// never are sightings with which no history is possible.
func never() []api.Sighting {
	return append(sightings(), api.Sighting{Tick: 1, Cells: []int{4}, Seen: true})
}

func particle(weight int, cells ...int) api.Particle {
	return api.Particle{Weight: weight, Cells: cells}
}

// calm is water of one depth on which nothing drifts.
func calm(wide, high, depth, ticks int) api.Drift {
	c := api.Chart{
		Wide: wide, High: high, Depth: slices.Repeat([]int{depth}, wide*high),
		Tide: make([]api.Span, ticks), Swell: make([]int, ticks),
	}
	none := func() []api.Push { return slices.Repeat([]api.Push{{Dirs: 1}}, ticks-1) }
	return api.Drift{Chart: c, Zones: make([]int, wide*high), Currents: [][]api.Push{none()}, Wind: none()}
}

// flood is a drift in a row of cells, by up to so many cells to the east in each tick.
func flood(wide, ticks, steps int) api.Drift {
	d := calm(wide, 1, 50, ticks)
	d.Currents[0] = slices.Repeat([]api.Push{{Dirs: 1, Steps: span(0, steps)}}, ticks-1)
	return d
}

// hunt is a search on calm and deep water.
func hunt(wide, high, ticks int, units ...api.Unit) api.Hunt {
	return api.Hunt{Drift: calm(wide, high, 50, ticks), Ticks: ticks, Units: units}
}

func aircraft(cell, reach, chance int) api.Unit {
	return api.Unit{Cell: cell, Reach: reach, Chance: chance}
}

func boat(cell, reach, draught, chance int) api.Unit {
	return api.Unit{Cell: cell, Reach: reach, Draught: draught, Chance: chance}
}

func copied(h api.Hunt) api.Hunt {
	c, d := &h.Drift.Chart, &h.Drift
	c.Depth, c.Tide, c.Swell = slices.Clone(c.Depth), slices.Clone(c.Tide), slices.Clone(c.Swell)
	d.Zones, d.Wind, d.Currents = slices.Clone(d.Zones), slices.Clone(d.Wind), slices.Clone(d.Currents)
	for i := range d.Currents {
		d.Currents[i] = slices.Clone(d.Currents[i])
	}
	h.Units = slices.Clone(h.Units)
	return h
}

// puzzle is something to find out about a hunt. Where no plan could be found by chance it has none.
type puzzle struct {
	h    api.Hunt
	l    []api.Particle
	plan [][]int
	x    api.Drifter
	seen []api.Sighting
}

// puzzles returns puzzles that look random and are the same in every run.
func puzzles(seed uint64, n, wide, high, ticks, particles int) []puzzle {
	r := rand.New(rand.NewPCG(seed, 4))
	var l []puzzle
	for range n {
		p := puzzle{h: api.Hunt{Drift: someSea(r, 1+r.IntN(wide), 1+r.IntN(high), 1+r.IntN(ticks))}}
		units := 1 + r.IntN(3)
		most := min(len(p.h.Drift.Chart.Tide), 8/units)
		p.h.Ticks = max(1+r.IntN(most), 1+r.IntN(most))
		for range units {
			p.h.Units = append(p.h.Units, someUnit(r, p.h.Drift.Chart))
		}
		for range 1 + r.IntN(particles) {
			p.l = append(p.l, someParticle(r, p.h))
		}
		p.plan = somePlan(r, p.h)
		p.x, p.seen = someDrifter(r, p.h.Drift.Chart)
		l = append(l, p)
	}
	return l
}

// planned are those puzzles that have a plan.
func planned(l []puzzle) []puzzle {
	return slices.DeleteFunc(l, func(p puzzle) bool { return p.plan == nil })
}

// someSea returns a sea on which it often depends on the height of the tide whether a cell is dry.
func someSea(r *rand.Rand, wide, high, ticks int) api.Drift {
	d := calm(wide, high, 0, ticks)
	for i := range d.Chart.Depth {
		d.Chart.Depth[i] = r.IntN(16) - 3
	}
	for i := range d.Chart.Tide {
		low := r.IntN(5)
		d.Chart.Tide[i], d.Chart.Swell[i] = span(low, low+r.IntN(4)), r.IntN(3)
	}
	somePushes := func() []api.Push {
		l := make([]api.Push, ticks-1)
		for i := range l {
			low := r.IntN(2)
			l[i] = api.Push{Dirs: 1 << r.IntN(6), Steps: span(low, low+r.IntN(2))}
			if r.IntN(3) == 0 {
				l[i].Dirs = 1 + r.IntN(63)
			}
		}
		return l
	}
	d.Currents = [][]api.Push{somePushes(), somePushes()}
	for i := range d.Zones {
		d.Zones[i] = r.IntN(2)
	}
	d.Wind = somePushes()
	return d
}

func someUnit(r *rand.Rand, c api.Chart) api.Unit {
	u := aircraft(r.IntN(len(c.Depth)), []int{0, 1, 1, 1, 1, 2, 2, 3}[r.IntN(8)], []int{0, 100, 50, 50, r.IntN(101), r.IntN(101)}[r.IntN(6)])
	if r.IntN(2) == 0 {
		u.Draught = 1 + r.IntN(6)
	}
	return u
}

// someParticle often stays near to where it is, and sometimes leaves the chart.
func someParticle(r *rand.Rand, h api.Hunt) api.Particle {
	p := api.Particle{Weight: []int{1, 1 + r.IntN(3), 1 + r.IntN(66)}[r.IntN(3)]}
	cell := r.IntN(len(h.Drift.Chart.Depth))
	for range h.Ticks {
		if r.IntN(3) == 0 {
			cell = r.IntN(len(h.Drift.Chart.Depth)+1) - 1
		}
		p.Cells = append(p.Cells, cell)
	}
	return p
}

// somePlan tries some plans by chance.
func somePlan(r *rand.Rand, h api.Hunt) [][]int {
	m := look(h)
	for range 20 {
		f, ok := m.start()
		plan := make([][]int, len(h.Units))
		for tick := 0; ok; tick++ {
			for i := range plan {
				plan[i] = append(plan[i], f[i])
			}
			if tick == h.Ticks-1 {
				return plan
			}
			next := slices.Collect(m.next(f, tick+1))
			if ok = len(next) > 0; ok {
				f = next[r.IntN(len(next))]
			}
		}
	}
	return nil
}

func someDrifter(r *rand.Rand, c api.Chart) (api.Drifter, []api.Sighting) {
	leeway := r.IntN(8)
	x := api.Drifter{At: r.IntN(len(c.Tide)), Cells: someCells(r, c, 1), Leeway: span(leeway, min(8, leeway+r.IntN(3)))}
	if r.IntN(3) > 0 {
		x.At = 0
	}
	var seen []api.Sighting
	for range max(0, r.IntN(6)-2) {
		tick := x.At + r.IntN(len(c.Tide)-x.At)
		seen = append(seen, api.Sighting{Tick: tick, Cells: someCells(r, c, 0), Seen: r.IntN(2) == 0})
	}
	return x, seen
}

func someCells(r *rand.Rand, c api.Chart, least int) []int {
	l := r.Perm(len(c.Depth))
	l = l[:least+r.IntN(len(l)+1-least)]
	slices.Sort(l)
	return l
}

// mustFound and the others below return results that have to come without an error.
func mustFound(t *testing.T, h api.Hunt, l []api.Particle, plan [][]int) api.Share {
	t.Helper()
	s, e := sweep.Found(h, l, plan)
	if e != api.OK {
		t.Fatalf("Found(%v, %v, %v) = %v, %d", h, l, plan, s, e)
	}
	return s
}

func mustLeft(t *testing.T, h api.Hunt, l []api.Particle, plan [][]int) []api.Share {
	t.Helper()
	s, e := sweep.Left(h, l, plan)
	if e != api.OK || len(s) != len(l) {
		t.Fatalf("Left(%v, %v, %v) = %v, %d", h, l, plan, s, e)
	}
	return s
}

// mustBest also holds that the plan is valid, and that it has its chance.
func mustBest(t *testing.T, h api.Hunt, l []api.Particle) ([][]int, api.Share) {
	t.Helper()
	p, s, e := sweep.Best(h, l)
	if e != api.OK || !look(h).isPlan(p) || mustFound(t, h, l, p) != s {
		t.Fatalf("Best(%v, %v) = %v, %v, %d", h, l, p, s, e)
	}
	return p, s
}

func mustEnds(t *testing.T, h api.Hunt, l []api.Particle, plan [][]int, percent, hope int) (ticks, reason int) {
	t.Helper()
	ticks, reason, e := sweep.Ends(h, l, plan, api.Rule{Percent: percent, Hope: hope})
	if e != api.OK {
		t.Fatalf("Ends(%v, %v, %v) by %d, %d = %d, %d, %d", h, l, plan, percent, hope, ticks, reason, e)
	}
	return ticks, reason
}

func mustSure(t *testing.T, p puzzle) api.Share {
	t.Helper()
	s, e := sweep.Sure(p.h, p.x, p.seen, p.plan)
	if e != api.OK {
		t.Fatalf("Sure(%v) = %v, %d", p, s, e)
	}
	return s
}

func mustHide(t *testing.T, p puzzle) history {
	t.Helper()
	leeway, cells, e := sweep.Hide(p.h, p.x, p.seen, p.plan)
	if e != api.OK {
		t.Fatalf("Hide(%v) = %d, %v, %d", p, leeway, cells, e)
	}
	return history{leeway, cells}
}
