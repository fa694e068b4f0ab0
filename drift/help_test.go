package drift_test

import (
	"maps"
	"math/rand/v2"
	"slices"
	"testing"

	"coble/api"
	"coble/drift"
)

func span(low, high int) api.Span { return api.Span{Low: low, High: high} }

// sea is the drift D of the chapter's examples.
func sea() api.Drift {
	c := api.Chart{
		Wide: 4, High: 3, Depth: []int{0, 0, -50, -90, 30, 20, 10, -20, 60, 60, 40, 30},
		Tide:  []api.Span{span(10, 14), span(20, 26), span(30, 36), span(20, 26), span(10, 14)},
		Swell: []int{5, 5, 5, 5, 5},
	}
	current := slices.Repeat([]api.Push{{Dirs: 1, Steps: span(0, 1)}}, 4)
	return api.Drift{
		Chart: c, Zones: []int{1, 1, 1, 1, 0, 0, 0, 0, 0, 0, 0, 0},
		Currents: [][]api.Push{current, slices.Repeat([]api.Push{{Dirs: 1}}, 4)},
		Wind:     slices.Repeat([]api.Push{{Dirs: 2, Steps: span(0, 2)}}, 4),
	}
}

// drifter is X of the chapter's examples.
func drifter() api.Drifter { return api.Drifter{Cells: []int{4}, Leeway: span(2, 4)} }

// sightings are S of the chapter's examples.
func sightings() []api.Sighting {
	return []api.Sighting{{Tick: 1, Cells: []int{4, 5}}, {Tick: 2, Cells: []int{10}, Seen: true}}
}

// never are S and the sighting that contradicts the first one of them.
func never() []api.Sighting {
	return append(sightings(), api.Sighting{Tick: 1, Cells: []int{4}, Seen: true})
}

func body() api.Body {
	return api.Body{Costs: []api.Span{span(3, 4), span(1, 1)}, Strength: span(10, 14)}
}

// cells returns the numbers of all cells of a chart.
func cells(c api.Chart) []int {
	var l []int
	for cell := range c.Depth {
		l = append(l, cell)
	}
	return l
}

// still is a drift without tide, current and wind on water of one depth.
func still(wide, high, depth, ticks int) api.Drift {
	c := api.Chart{
		Wide: wide, High: high, Depth: slices.Repeat([]int{depth}, wide*high),
		Tide: make([]api.Span, ticks), Swell: make([]int, ticks),
	}
	none := func() []api.Push { return slices.Repeat([]api.Push{{Dirs: 1}}, ticks-1) }
	return api.Drift{Chart: c, Zones: make([]int, wide*high), Currents: [][]api.Push{none()}, Wind: none()}
}

func copied(d api.Drift) api.Drift {
	d.Chart.Depth, d.Chart.Tide, d.Chart.Swell = slices.Clone(d.Chart.Depth), slices.Clone(d.Chart.Tide), slices.Clone(d.Chart.Swell)
	d.Zones, d.Wind, d.Currents = slices.Clone(d.Zones), slices.Clone(d.Wind), slices.Clone(d.Currents)
	for i := range d.Currents {
		d.Currents[i] = slices.Clone(d.Currents[i])
	}
	return d
}

// puzzle is something to find out about a drifter.
type puzzle struct {
	d    api.Drift
	x    api.Drifter
	seen []api.Sighting
	b    api.Body
}

// puzzles returns puzzles that look random and are the same in every run. Their depths are such that what is dry often
// depends on the height of the tide.
func puzzles(seed uint64, n, wide, high, ticks int) []puzzle {
	r := rand.New(rand.NewPCG(seed, 2))
	var l []puzzle
	for range n {
		d := someSea(r, 1+r.IntN(wide), 1+r.IntN(high), 1+r.IntN(ticks))
		leeway := r.IntN(8)
		x := api.Drifter{At: r.IntN(len(d.Chart.Tide)), Cells: someCells(r, d.Chart, 1), Leeway: span(leeway, min(8, leeway+r.IntN(4)))}
		if r.IntN(2) == 0 {
			x.At = 0
		}
		var seen []api.Sighting
		for range r.IntN(7) {
			tick := x.At + r.IntN(len(d.Chart.Tide)-x.At)
			s := api.Sighting{Tick: tick, Cells: someCells(r, d.Chart, 0), Seen: r.IntN(3) == 0}
			if r.IntN(2) == 0 {
				s.Cells = s.Cells[:min(2, len(s.Cells))]
			}
			seen = append(seen, s)
		}
		strength := r.IntN(12)
		b := api.Body{Strength: span(strength, strength+r.IntN(6))}
		for range d.Currents {
			least := r.IntN(4)
			b.Costs = append(b.Costs, span(least, least+r.IntN(3)))
		}
		l = append(l, puzzle{d, x, seen, b})
	}
	return l
}

// vague returns a puzzle with many sightings, each of which says little.
func vague(r *rand.Rand, p puzzle) puzzle {
	p.seen = nil
	for range 4 + r.IntN(9) {
		tick := p.x.At + r.IntN(len(p.d.Chart.Tide)-p.x.At)
		out := r.IntN(len(p.d.Chart.Depth))
		s := api.Sighting{Tick: tick, Cells: []int{out}}
		if r.IntN(3) == 0 {
			s = api.Sighting{Tick: tick, Cells: slices.Delete(cells(p.d.Chart), out, out+1), Seen: true}
		}
		p.seen = append(p.seen, s)
	}
	return p
}

func someSea(r *rand.Rand, wide, high, ticks int) api.Drift {
	d := still(wide, high, 0, ticks)
	for i := range d.Chart.Depth {
		d.Chart.Depth[i] = r.IntN(12) - 4
	}
	for i := range d.Chart.Tide {
		low := r.IntN(6)
		d.Chart.Tide[i], d.Chart.Swell[i] = span(low, low+r.IntN(5)), r.IntN(4)
	}
	d.Currents = nil
	for range 1 + r.IntN(4) {
		d.Currents = append(d.Currents, somePushes(r, ticks-1))
	}
	for i := range d.Zones {
		d.Zones[i] = r.IntN(len(d.Currents))
	}
	d.Wind = somePushes(r, ticks-1)
	return d
}

func somePushes(r *rand.Rand, n int) []api.Push {
	l := make([]api.Push, n)
	for i := range l {
		dirs := 1 << r.IntN(6)
		if r.IntN(3) == 0 {
			dirs = 1 + r.IntN(63)
		}
		low := r.IntN(4)
		l[i] = api.Push{Dirs: dirs, Steps: span(low, low+r.IntN(4-low))}
	}
	return l
}

func someCells(r *rand.Rand, c api.Chart, least int) []int {
	l := cells(c)
	r.Shuffle(len(l), func(i, k int) { l[i], l[k] = l[k], l[i] })
	l = l[:least+r.IntN(len(l)+1-least)]
	slices.Sort(l)
	return l
}

// beside finds a neighbour by where the cells lie, in halves of a cell to the east and in rows to the north; -1: none.
func beside(c api.Chart, cell, direction int) int {
	off := [6][2]int{{2, 0}, {1, 1}, {-1, 1}, {-2, 0}, {-1, -1}, {1, -1}}[direction]
	row := cell/c.Wide + off[1]
	east := cell%c.Wide*2 + cell/c.Wide%2 + off[0] - (row+2)%2
	if row < 0 || row >= c.High || east < 0 || east >= 2*c.Wide {
		return -1
	}
	return row*c.Wide + east/2
}

func isDry(c api.Chart, cell, tick, height int) bool {
	return c.Depth[cell]+height-c.Swell[tick] < 1
}

// pushed pushes something so many steps in a direction, with one height of the tide.
func pushed(c api.Chart, cell, tick, height, direction, steps int) int {
	for range steps {
		next := beside(c, cell, direction)
		if next < 0 {
			return -1
		}
		if isDry(c, next, tick, height) {
			return cell
		}
		cell = next
	}
	return cell
}

// ends tries each direction and each number of steps of a push.
func ends(c api.Chart, cell, tick, height int, p api.Push, leeway int) map[int]bool {
	set := map[int]bool{}
	for direction := range 6 {
		for force := p.Steps.Low; p.Dirs&(1<<direction) != 0 && force <= p.Steps.High; force++ {
			set[pushed(c, cell, tick, height, direction, force*leeway/4)] = true
		}
	}
	return set
}

// stepped tries each height of the tide by itself, with each push of the current and each one of the wind.
func stepped(d api.Drift, cell, tick, leeway int) []int {
	if cell < 0 {
		return []int{-1}
	}
	set := map[int]bool{}
	for height := d.Chart.Tide[tick].Low; height <= d.Chart.Tide[tick].High; height++ {
		if isDry(d.Chart, cell, tick, height) {
			set[cell] = true
			continue
		}
		for moved := range ends(d.Chart, cell, tick, height, d.Currents[d.Zones[cell]][tick], 4) {
			if moved < 0 {
				set[-1] = true
				continue
			}
			for end := range ends(d.Chart, moved, tick, height, d.Wind[tick], leeway) {
				set[end] = true
			}
		}
	}
	return slices.Sorted(maps.Keys(set))
}

// history is a leeway, and the cells tick by tick.
type history struct {
	leeway int
	cells  []int
}

// histories returns all histories of a drifter, one by one.
func histories(d api.Drift, x api.Drifter) []history {
	var l []history
	for leeway := x.Leeway.Low; leeway <= x.Leeway.High; leeway++ {
		steps := map[[2]int][]int{}
		var goOn func(cells []int)
		goOn = func(cells []int) {
			tick, last := x.At+len(cells)-1, cells[len(cells)-1]
			if tick == len(d.Chart.Tide)-1 {
				l = append(l, history{leeway, cells})
				return
			}
			if _, ok := steps[[2]int{last, tick}]; !ok {
				steps[[2]int{last, tick}] = stepped(d, last, tick, leeway)
			}
			for _, next := range steps[[2]int{last, tick}] {
				goOn(append(slices.Clone(cells), next))
			}
		}
		for _, cell := range x.Cells {
			goOn([]int{cell})
		}
	}
	return l
}

func (h history) agrees(x api.Drifter, s api.Sighting) bool {
	return slices.Contains(s.Cells, h.cells[s.Tick-x.At]) == s.Seen
}

// possible returns those histories that agree with all sightings.
func possible(l []history, x api.Drifter, seen []api.Sighting) []history {
	var out []history
	for _, h := range l {
		if !slices.ContainsFunc(seen, func(s api.Sighting) bool { return !h.agrees(x, s) }) {
			out = append(out, h)
		}
	}
	return out
}

// thereIn returns those histories that are in a cell in a tick.
func thereIn(l []history, x api.Drifter, cell, tick int) []history {
	var out []history
	for _, h := range l {
		if h.cells[tick-x.At] == cell {
			out = append(out, h)
		}
	}
	return out
}

// blamed takes away one sighting after the other as long as no history agrees with the others.
func blamed(l []history, x api.Drifter, seen []api.Sighting) []int {
	gone := map[int]bool{}
	others := func() []api.Sighting {
		var out []api.Sighting
		for i, s := range seen {
			if !gone[i] {
				out = append(out, s)
			}
		}
		return out
	}
	var left []int
	for i := range seen {
		gone[i] = true
		if len(possible(l, x, others())) > 0 {
			gone[i] = false
			left = append(left, i)
		}
	}
	return left
}

// mustStep and the others below return results that have to come without an error.
func mustStep(t *testing.T, d api.Drift, cell, tick, leeway int) []int {
	t.Helper()
	l, e := drift.Step(d, cell, tick, leeway)
	if e != api.OK {
		t.Fatalf("Step(%v, %d, %d, %d): %d", d, cell, tick, leeway, e)
	}
	return l
}

func mustPlaces(t *testing.T, d api.Drift, x api.Drifter, seen []api.Sighting) [][]int {
	t.Helper()
	l, e := drift.Places(d, x, seen)
	if e != api.OK || len(l) != len(d.Chart.Tide)-x.At {
		t.Fatalf("Places(%v, %v, %v) = %v, %d", d, x, seen, l, e)
	}
	return l
}

func mustLeeways(t *testing.T, d api.Drift, x api.Drifter, seen []api.Sighting) []int {
	t.Helper()
	l, e := drift.Leeways(d, x, seen)
	if e != api.OK {
		t.Fatalf("Leeways(%v, %v, %v): %d", d, x, seen, e)
	}
	return l
}

func mustAlive(t *testing.T, p puzzle) (sure, may int) {
	t.Helper()
	sure, may, e := drift.Alive(p.d, p.x, p.seen, p.b)
	if e != api.OK {
		t.Fatalf("Alive(%v): %d", p, e)
	}
	return sure, may
}

// has reports whether all of b are in a.
func has(a, b []int) bool {
	for _, x := range b {
		if !slices.Contains(a, x) {
			return false
		}
	}
	return true
}
