package lanes

import (
	"coble/api"
	"coble/checks"
)

// surface is the level of boats.
const surface = 0

// nowhere is where a unit is before its leg and after it.
const nowhere = -1

// spot is where a unit is in a tick, and where it was in the tick before. Its rear is where its tow is; a unit without one
// has its rear where it is.
type spot struct {
	now, before, rear int
}

// spotOf returns the spot of a unit, with a tow or without. A unit that is nowhere has no tow any more.
func spotOf(now, before int, tail bool) spot {
	rear := now
	if tail && now != nowhere && before != nowhere {
		rear = before
	}
	return spot{now, before, rear}
}

// spotIn returns the spot of the unit of a leg in a tick.
func spotIn(l api.Leg, tick int) spot {
	return spotOf(cellIn(l, tick), cellIn(l, tick-1), l.Tail)
}

// cellIn returns where the unit of a leg is in a tick.
func cellIn(l api.Leg, tick int) int {
	if i := tick - l.At; checks.Between(0, len(l.Cells)-1)(i) {
		return l.Cells[i]
	}
	return nowhere
}

// occupies reports whether a unit occupies a cell.
func (s spot) occupies(cell int) bool { return s.now == cell || s.rear == cell }

// clashes reports whether two units at the same level clash. It need not ask whether two that are where the other one was
// have been in the same cell: then they are in the same cell again.
func (s spot) clashes(o spot) bool {
	if s.now == nowhere || o.now == nowhere {
		return false
	}
	return s.occupies(o.now) || s.occupies(o.rear) || s.now == o.before && s.before == o.now
}
