package lanes

import (
	"slices"

	"coble/api"
	"coble/chart"
	"coble/lists"
)

// run is a trip through the traffic.
type run struct {
	traffic
	api.Trip
	beside [][]int // for each cell, those from which a unit comes to it in a tick, in ascending order
}

// start returns the run of a trip that is known to be valid.
func (s traffic) start(t api.Trip) run {
	r := run{traffic: s, Trip: t}
	for cell := range s.Depth {
		r.beside = append(r.beside, s.around(cell))
	}
	return r
}

// around returns a cell and its neighbours, in ascending order.
func (s traffic) around(cell int) []int {
	l := []int{cell}
	for direction := range 6 {
		if n, e := chart.Next(s.Chart, cell, direction); e == api.OK {
			l = append(l, n)
		}
	}
	slices.Sort(l)
	return l
}

// route returns the first of the earliest routes that clash with none of some legs, if there is one. For each tick and
// cell it keeps the least cell from which the unit can have come: as routes are told apart by the last place at which
// they differ, those cells lead back along the first one.
func (r run) route(legs []api.Leg) ([]int, bool) {
	var past [][]int
	from := r.first(r.clear(legs, r.At))
	for from[r.To] == nowhere {
		past = append(past, from)
		tick := r.At + len(past)
		if !r.isTick(tick) {
			return nil, false
		}
		from = r.after(from, tick, r.clear(legs, tick))
	}
	return trace(append(past, from), r.To), true
}

// clear returns what reports whether none of some legs is in the way of a unit in a tick.
func (r run) clear(legs []api.Leg, tick int) func(spot) bool {
	var others []spot
	for _, l := range legs {
		if l.Level == r.Level {
			others = append(others, spotIn(l, tick))
		}
	}
	return func(s spot) bool { return !slices.ContainsFunc(others, s.clashes) }
}

// first returns from where the unit comes to each cell in the first tick: to its own from there.
func (r run) first(clear func(spot) bool) []int {
	from := r.none()
	if clear(spotOf(r.From, nowhere, r.Tail)) && r.holds(r.Level, r.Draught, r.From, r.At) {
		from[r.From] = r.From
	}
	return from
}

// after returns from where the unit can come to each cell in a tick, if it can be in some cells in the tick before.
func (r run) after(before []int, tick int, clear func(spot) bool) []int {
	from := r.none()
	for cell, beside := range r.beside {
		i := slices.IndexFunc(beside, func(b int) bool {
			return before[b] != nowhere && clear(spotOf(cell, b, r.Tail))
		})
		if i >= 0 && r.holds(r.Level, r.Draught, cell, tick) {
			from[cell] = beside[i]
		}
	}
	return from
}

// none is from where the unit comes to each cell if it comes to none of them.
func (r run) none() []int { return slices.Repeat([]int{nowhere}, len(r.beside)) }

// trace returns the cells that lead to a cell in the last tick.
func trace(past [][]int, to int) []int {
	cells := make([]int, len(past))
	for i, from := range slices.Backward(past) {
		cells[i] = to
		to = from[to]
	}
	return cells
}

// block returns the legs that are needed to leave the trip no route.
func (r run) block() []int {
	return lists.Needed(len(r.legs), func(left []int) bool {
		var legs []api.Leg
		for _, i := range left {
			legs = append(legs, r.legs[i])
		}
		_, ok := r.route(legs)
		return !ok
	})
}

// plan returns the ticks in which trips end that are planned one after the other; -1 for those that are not planned.
func (s traffic) plan(trips []api.Trip) []int {
	var ends []int
	legs := slices.Clone(s.legs)
	for _, t := range trips {
		cells, ok := s.start(t).route(legs)
		if !ok {
			ends = append(ends, -1)
			continue
		}
		legs = append(legs, api.Leg{At: t.At, Level: t.Level, Draught: t.Draught, Tail: t.Tail, Cells: cells})
		ends = append(ends, t.At+len(cells)-1)
	}
	return ends
}
