// Package chart is layer 1: see shared/doc/01-chart.md.
package chart

import (
	"coble/api"
	"coble/checks"
	"coble/lists"
)

// Check returns ErrChart unless a chart is valid.
func Check(c api.Chart) api.Errno {
	if !valid(c) {
		return api.ErrChart
	}
	return api.OK
}

// Next returns the neighbour of a cell in a direction.
func Next(c api.Chart, cell, direction int) (int, api.Errno) {
	s, e := open(c, []int{cell}, nil)
	if e != api.OK {
		return 0, e
	}
	if !checks.Between(0, len(ways)-1)(direction) {
		return 0, api.ErrArg
	}
	next, ok := s.next(cell, direction)
	if !ok {
		return 0, api.ErrNone
	}
	return next, api.OK
}

// Apart returns how many steps it is from a cell to another one.
func Apart(c api.Chart, a, b int) (int, api.Errno) {
	s, e := open(c, []int{a, b}, nil)
	if e != api.OK {
		return 0, e
	}
	return s.apart(a, b), api.OK
}

// Water returns the span of the water over a cell in a tick.
func Water(c api.Chart, cell, tick int) (api.Span, api.Errno) {
	s, e := open(c, []int{cell}, []int{tick})
	if e != api.OK {
		return api.Span{}, e
	}
	return s.water(cell, tick), api.OK
}

// Floats reports whether a boat surely floats, and whether it may.
func Floats(c api.Chart, draught, cell, tick int) (sure, may bool, e api.Errno) {
	b, e := embark(c, draught, []int{cell}, []int{tick})
	if e != api.OK {
		return false, false, e
	}
	return b.surelyFloats(cell, tick), b.mayFloat(cell, tick), api.OK
}

// Arrive returns the first tick in which a boat can surely be in each cell.
func Arrive(c api.Chart, draught, from, tick int) ([]int, api.Errno) {
	b, e := embark(c, draught, []int{from}, []int{tick})
	if e != api.OK {
		return nil, e
	}
	return b.nearest(from, tick, onward), api.OK
}

// Passage returns the first passage that arrives soonest.
func Passage(c api.Chart, draught, from, tick, to int) ([]int, api.Errno) {
	b, e := embark(c, draught, []int{from, to}, []int{tick})
	if e != api.OK {
		return nil, e
	}
	var past [][]int
	for _, moves := range b.passages(from, tick, onward) {
		past = append(past, moves)
		if moves[to] >= 0 {
			return b.trace(past, to), api.OK
		}
	}
	return nil, api.ErrNone
}

// Depart returns the last tick in which a boat can still leave each cell.
func Depart(c api.Chart, draught, to, tick int) ([]int, api.Errno) {
	b, e := embark(c, draught, []int{to}, []int{tick})
	if e != api.OK {
		return nil, e
	}
	return b.nearest(to, tick, back), api.OK
}

// Moves returns the least number of moves with which a boat can be in each cell in a tick.
func Moves(c api.Chart, draught, from, tick, until int) ([]int, api.Errno) {
	b, e := embark(c, draught, []int{from}, []int{tick, until})
	if e != api.OK {
		return nil, e
	}
	for t, moves := range b.passages(from, tick, onward) {
		if t == until {
			return moves, api.OK
		}
	}
	return b.nowhere(), api.OK
}

// Windows returns when a boat surely can be launched, and when it may.
func Windows(c api.Chart, r api.Ramp) (sure, may []api.Span, e api.Errno) {
	s, e := open(c, nil, nil)
	if e != api.OK {
		return nil, nil, e
	}
	if !s.hasRamp(r) {
		return nil, nil, api.ErrRamp
	}
	l := slip{boat{s, r.Draught}, r}
	return lists.Spans(len(s.Tide), l.surelyLaunches), lists.Spans(len(s.Tide), l.mayLaunch), api.OK
}
