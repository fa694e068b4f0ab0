package sweep

import (
	"maps"
	"slices"

	"coble/api"
	"coble/drift"
)

// target is a drifter with one leeway, for which units search by a plan.
type target struct {
	search
	plan   [][]int
	at     int
	leeway int
	misses []misses // by tick from at on, up to the last one of the search
}

// misses tells for each place in which possible histories are in a tick the greatest one of their misses up to it, counted in
// parts of 1.
type misses map[int]int

// follow returns the target with that leeway with which a possible history has the greatest miss.
func follow(h api.Hunt, x api.Drifter, seen []api.Sighting, plan [][]int) (target, api.Errno) {
	s, e := open(h)
	if e != api.OK {
		return target{}, e
	}
	leeways, e := drift.Leeways(h.Drift, x, seen)
	if e != api.OK && e != api.ErrNone {
		return target{}, e
	}
	if e := s.checkPlan(plan); e != api.OK {
		return target{}, e
	}
	var best target
	for i, leeway := range leeways {
		t := target{search: s, plan: plan, at: x.At, leeway: leeway}
		x.Leeway = t.span()
		places, _ := drift.Places(h.Drift, x, seen)
		t.drift(places)
		if i == 0 || t.greatest() > best.greatest() {
			best = t
		}
	}
	return best, e
}

func (t *target) span() api.Span { return api.Span{Low: t.leeway, High: t.leeway} }

// drift goes through the ticks, by the places of all possible histories with the leeway: whoever goes from one of them to
// the next one follows a possible history.
func (t *target) drift(places [][]int) {
	first := misses{}
	for _, place := range places[0] {
		first[place] = t.missed(t.parts(), t.at, place)
	}
	t.misses = []misses{first}
	for tick := t.at + 1; tick < t.Ticks; tick++ {
		t.misses = append(t.misses, t.next(tick, places[tick-t.at]))
	}
}

// next returns the misses up to a tick from those up to the tick before it: the greatest ones come first, so that a place
// that is reached has its greatest miss.
func (t *target) next(tick int, places []int) misses {
	before, now := t.misses[tick-1-t.at], misses{}
	for _, miss := range before.fromGreatest() {
		for _, place := range t.reached(before.placesWith(miss), tick) {
			if _, ok := now[place]; !ok && slices.Contains(places, place) {
				now[place] = t.missed(miss, tick, place)
			}
		}
	}
	return now
}

// missed returns a miss after one tick more; when the search is over it stays as it is.
func (t *target) missed(miss, tick, place int) int {
	if tick >= t.Ticks {
		return miss
	}
	return t.unseen(miss, fleetOf(t.plan, tick), place)
}

// reached returns all places that can be reached in a tick from some places in the tick before it.
func (t *target) reached(from []int, tick int) []int {
	var l []int
	if slices.Contains(from, outside) {
		l = append(l, outside)
	}
	if cells := inChart(from); len(cells) > 0 {
		places, _ := drift.Places(t.lastStep(tick), api.Drifter{Cells: cells, Leeway: t.span()}, nil)
		l = append(l, places[1]...)
	}
	return l
}

// lastStep returns the drift from the tick before a tick up to it alone, in which these are the ticks 0 and 1.
func (t *target) lastStep(tick int) api.Drift {
	d := t.Drift
	d.Chart.Tide, d.Chart.Swell = d.Chart.Tide[tick-1:tick+1], d.Chart.Swell[tick-1:tick+1]
	d.Currents = slices.Clone(d.Currents)
	for i, l := range d.Currents {
		d.Currents[i] = l[tick-1 : tick]
	}
	d.Wind = d.Wind[tick-1 : tick]
	return d
}

// greatest returns the greatest miss of all possible histories.
func (t *target) greatest() int { return t.misses[len(t.misses)-1].fromGreatest()[0] }

// history returns a possible history with the greatest miss.
func (t *target) history(seen []api.Sighting) []int {
	end := len(t.misses) - 1
	place := t.misses[end].placesWith(t.greatest())[0]
	cells := t.onward(t.at+end, place, seen)
	for tick := t.at + end; tick > t.at; tick-- {
		place = t.origin(tick, place)
		cells = append(cells, place)
	}
	slices.Reverse(cells)
	return cells
}

// onward returns by which places a possible history goes on from a place in a tick, the last one first.
func (t *target) onward(tick, place int, seen []api.Sighting) []int {
	if place == outside {
		return slices.Repeat([]int{outside}, len(t.Drift.Chart.Tide)-tick)
	}
	later := slices.DeleteFunc(slices.Clone(seen), func(x api.Sighting) bool { return x.Tick < tick })
	x := api.Drifter{At: tick, Cells: []int{place}, Leeway: t.span()}
	_, cells, _ := drift.History(t.Drift, x, later, place, tick)
	slices.Reverse(cells)
	return cells
}

// origin returns from which place a history with the greatest miss comes to a place in a tick.
func (t *target) origin(tick, place int) int {
	before := t.misses[tick-1-t.at]
	for _, miss := range before.fromGreatest() {
		from := before.placesWith(miss)
		if place == outside && slices.Contains(from, outside) {
			break
		}
		x := api.Drifter{Cells: inChart(from), Leeway: t.span()}
		if _, cells, e := drift.History(t.lastStep(tick), x, nil, place, 1); e == api.OK {
			return cells[0]
		}
	}
	return outside
}

// fromGreatest returns all misses from the greatest one down.
func (m misses) fromGreatest() []int {
	l := slices.Compact(slices.Sorted(maps.Values(m)))
	slices.Reverse(l)
	return l
}

// placesWith returns the places with a miss in ascending order.
func (m misses) placesWith(miss int) []int {
	var l []int
	for place, n := range m {
		if n == miss {
			l = append(l, place)
		}
	}
	slices.Sort(l)
	return l
}

// inChart returns places without the outside.
func inChart(places []int) []int {
	return slices.DeleteFunc(slices.Clone(places), func(place int) bool { return place == outside })
}
