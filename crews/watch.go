package crews

import (
	"slices"

	"coble/api"
)

// watch is the hands of a station with the shifts for which they are to fill some seats. Sets of hands and of shifts are
// numbers with a bit for each of them.
type watch struct {
	station
	shifts int
	teams  []team
	fills  [1 << api.MaxHands]bool                // whether some of a set of hands can fill the seats
	may    [api.MaxHands][1 << api.MaxShifts]bool // whether a hand may serve in all of a set of shifts
}

// team is hands who can fill the seats, seat by seat, and the set of them.
type team struct {
	hands []int
	set   int
}

// rota is, for each hand, the set of its shifts.
type rota [api.MaxHands]int

// watch returns the first lists of hands for all shifts, if there are any.
func (s station) watch(seats []int, shifts []api.Span) ([][]int, bool) {
	w := watch{station: s, shifts: len(shifts), teams: s.teams(seats)}
	for set := range w.fills {
		w.fills[set] = slices.ContainsFunc(w.teams, func(t team) bool { return t.set&^set == 0 })
	}
	for hand := range s.Hands {
		for set := range 1 << len(shifts) {
			w.may[hand][set] = s.mayServe(hand, inSet(shifts, set)...)
		}
	}
	return w.fill(rota{}, nil)
}

// teams returns, in order, the first seating of each set of hands who can fill the seats: what the hands may do later does
// not depend on where they sit now.
func (s station) teams(seats []int) []team {
	var l []team
	var known [1 << api.MaxHands]bool
	for hands := range choices(s.places(seats, func(int) bool { return true })) {
		set := 0
		for _, hand := range hands {
			set |= 1 << hand
		}
		if !known[set] {
			known[set] = true
			l = append(l, team{hands, set})
		}
	}
	return l
}

func inSet(shifts []api.Span, set int) []api.Span {
	var l []api.Span
	for i, s := range shifts {
		if set>>i&1 == 1 {
			l = append(l, s)
		}
	}
	return l
}

// fill returns the first lists for all shifts that begin with some lists, if there are any.
func (w *watch) fill(r rota, l [][]int) ([][]int, bool) {
	shift := len(l)
	if shift == w.shifts {
		return l, true
	}
	free := w.free(r, shift)
	for _, t := range w.teams {
		if t.set&^free != 0 {
			continue
		}
		next := r.with(t, shift)
		if !w.hopes(next, shift+1) {
			continue
		}
		if all, ok := w.fill(next, append(l, slices.Clone(t.hands))); ok {
			return all, true
		}
	}
	return nil, false
}

// with returns a rota in which the hands of a team have one shift more.
func (r rota) with(t team, shift int) rota {
	for _, hand := range t.hands {
		r[hand] |= 1 << shift
	}
	return r
}

// free returns the set of the hands who may still serve in a shift.
func (w *watch) free(r rota, shift int) int {
	set := 0
	for hand := range w.Hands {
		if w.may[hand][r[hand]|1<<shift] {
			set |= 1 << hand
		}
	}
	return set
}

// hopes reports whether each shift from one on, taken alone, can still be filled.
func (w *watch) hopes(r rota, from int) bool {
	for shift := from; shift < w.shifts; shift++ {
		if !w.fills[w.free(r, shift)] {
			return false
		}
	}
	return true
}
