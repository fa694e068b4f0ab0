package fixes

import (
	"iter"
	"slices"

	"coble/api"
	"coble/chart"
	"coble/checks"
)

// search is a distress that is open: it is known to be valid, and its chart has been asked.
type search struct {
	api.Distress
	near   [][]int  // for each cell those that are at most Pace apart, in ascending order
	floats [][]bool // for each tick and cell whether a course may be there
	untrue [][]set  // for each tick and cell the reports of this tick that are not true of a course that is there
}

// open returns the search of a distress, about some of its ticks and cells.
func open(d api.Distress, ticks, cells []int) (search, api.Errno) {
	if e := Check(d); e != api.OK {
		return search{}, e
	}
	s := search{Distress: d}
	if !checks.All(ticks, s.isTick) || !checks.All(cells, s.isCell) {
		return search{}, api.ErrArg
	}
	for cell := range d.Chart.Depth {
		s.near = append(s.near, s.cells(func(n int) bool { return s.apart(cell, n) <= d.Pace }))
	}
	for tick := range d.Chart.Tide {
		s.floats = append(s.floats, s.afloat(tick))
		s.untrue = append(s.untrue, s.denied(tick))
	}
	return s, api.OK
}

func (s search) lastTick() int { return len(s.Chart.Tide) - 1 }

// cells returns the cells of which something is so, in ascending order.
func (s search) cells(is func(cell int) bool) []int {
	var l []int
	for cell := range s.Chart.Depth {
		if is(cell) {
			l = append(l, cell)
		}
	}
	return l
}

// afloat returns for each cell whether the casualty may float in it in a tick.
func (s search) afloat(tick int) []bool {
	l := make([]bool, len(s.Chart.Depth))
	for cell := range l {
		_, l[cell], _ = chart.Floats(s.Chart, s.Draught, cell, tick)
	}
	return l
}

// denied returns for each cell the reports of a tick that are not true of a course which is in it.
func (s search) denied(tick int) []set {
	l := make([]set, len(s.Chart.Depth))
	for i, r := range s.Reports {
		for cell := range l {
			if r.Tick == tick && !s.isTrue(r, cell) {
				l[cell] |= setOf(i)
			}
		}
	}
	return l
}

// through returns the search for those courses alone that are in a cell in a tick.
func (s search) through(tick, cell int) search {
	only := make([]bool, len(s.Chart.Depth))
	only[cell] = s.floats[tick][cell]
	s.floats = slices.Clone(s.floats)
	s.floats[tick] = only
	return s
}

// pay returns for each cell what the cheapest part of a course that ends there pays, from what those up to the tick gone
// through before it pay.
func (s search) pay(p price, tick int, before []int) []int {
	l := slices.Repeat([]int{never}, len(before))
	for cell := range l {
		if !s.floats[tick][cell] {
			continue
		}
		if now := p(tick, cell); now < never {
			l[cell] = min(never, now+before[s.cheapest(s.near[cell], before)])
		}
	}
	return l
}

// cheapest returns the first one of some cells whose price is the least.
func (s search) cheapest(cells, prices []int) int {
	first := cells[0]
	for _, cell := range cells {
		if prices[cell] < prices[first] {
			first = cell
		}
	}
	return first
}

// The two ways in which the ticks of courses may be gone through.
const (
	onward = 1
	back   = -1
)

// parts yields ticks from one of them on, and for each of them what the cheapest parts of courses from there to each cell
// pay. Gone through back in time courses obey the same rules.
func (s search) parts(p price, from, step int) iter.Seq2[int, []int] {
	return func(yield func(int, []int) bool) {
		paid := make([]int, len(s.Chart.Depth))
		for tick := from; s.isTick(tick); tick += step {
			paid = s.pay(p, tick, paid)
			if !yield(tick, paid) {
				return
			}
		}
	}
}

// partsAt returns what is yielded for a tick.
func (s search) partsAt(at int, parts iter.Seq2[int, []int]) []int {
	for tick, paid := range parts {
		if tick == at {
			return paid
		}
	}
	return nil
}

// within returns the cells in which courses are in a tick that pay at most so much.
func (s search) within(p price, tick, most int) []int {
	before, after := s.partsAt(tick, s.parts(p, 0, onward)), s.partsAt(tick, s.parts(p, s.lastTick(), back))
	return s.cells(func(cell int) bool {
		return max(before[cell], after[cell]) < never && before[cell]+after[cell]-p(tick, cell) <= most
	})
}

// best returns the first one of the courses that pay the least, and what they pay. ErrNone if there is no course.
func (s search) best(p price) (paid int, course []int, e api.Errno) {
	rest := make([][]int, len(s.Chart.Tide))
	for tick, paid := range s.parts(p, s.lastTick(), back) {
		rest[tick] = paid
	}
	paid = slices.Min(rest[0])
	if paid == never {
		return 0, nil, api.ErrNone
	}
	cells := s.cells(s.isCell)
	for _, paid := range rest {
		cell := s.cheapest(cells, paid)
		course = append(course, cell)
		cells = s.near[cell]
	}
	return paid, course, api.OK
}
