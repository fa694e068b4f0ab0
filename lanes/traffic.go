package lanes

import (
	"slices"

	"coble/api"
	"coble/chart"
	"coble/checks"
	"coble/lists"
)

// traffic is legs on a chart: all of them are known to be valid.
type traffic struct {
	api.Chart
	legs []api.Leg
}

// open returns the traffic of legs.
func open(c api.Chart, l []api.Leg) (traffic, api.Errno) {
	if e := chart.Check(c); e != api.OK {
		return traffic{}, e
	}
	s := traffic{c, l}
	if len(l) > api.MaxLegs || !checks.All(l, s.isLeg) {
		return traffic{}, api.ErrLeg
	}
	return s, api.OK
}

// ready opens the traffic of legs for a trip.
func ready(c api.Chart, l []api.Leg, t api.Trip) (traffic, api.Errno) {
	s, e := open(c, l)
	if e != api.OK {
		return traffic{}, e
	}
	if !s.isTrip(t) {
		return traffic{}, api.ErrTrip
	}
	return s, api.OK
}

// isLeg looks at the first tick before the last one, so that their sum is not too large, and at the cells before it asks
// chart about them.
func (s traffic) isLeg(l api.Leg) bool {
	return isUnit(l.Level, l.Draught) &&
		len(l.Cells) > 0 && s.isTick(l.At) && s.isTick(l.At+len(l.Cells)-1) &&
		checks.All(l.Cells, s.isCell) && s.isWay(l)
}

// isWay reports whether the unit of a leg can go as it is planned.
func (s traffic) isWay(l api.Leg) bool {
	for i, cell := range l.Cells {
		if !s.holds(l.Level, l.Draught, cell, l.At+i) || i > 0 && s.apart(l.Cells[i-1], cell) > 1 {
			return false
		}
	}
	return true
}

func (s traffic) isTrip(t api.Trip) bool {
	return isUnit(t.Level, t.Draught) && s.isTick(t.At) && s.isCell(t.From) && s.isCell(t.To)
}

// isUnit reports whether there are such boats, or such aircraft.
func isUnit(level, draught int) bool {
	if level == surface {
		return checks.Between(1, api.MaxDraught)(draught)
	}
	return isLevel(level) && draught == 0
}

func isLevel(level int) bool { return checks.Between(surface, api.MaxLevel)(level) }

func (s traffic) isCell(cell int) bool { return checks.Between(0, len(s.Depth)-1)(cell) }

func (s traffic) isTick(tick int) bool { return checks.Between(0, len(s.Tide)-1)(tick) }

func (s traffic) apart(a, b int) int {
	n, _ := chart.Apart(s.Chart, a, b)
	return n
}

// holds reports whether a unit can be in a cell in a tick: an aircraft always can.
func (s traffic) holds(level, draught, cell, tick int) bool {
	if level != surface {
		return true
	}
	sure, _, _ := chart.Floats(s.Chart, draught, cell, tick)
	return sure
}

// clashes returns each two legs that clash, and the first tick in which they do.
func (s traffic) clashes() [][3]int {
	var l [][3]int
	for i, a := range s.legs {
	others:
		for k := i + 1; k < len(s.legs); k++ {
			b := s.legs[k]
			for tick := range s.Tide {
				if a.Level == b.Level && spotIn(a, tick).clashes(spotIn(b, tick)) {
					l = append(l, [3]int{i, k, tick})
					continue others
				}
			}
		}
	}
	return l
}

// free returns the ticks in which no unit at a level occupies a cell.
func (s traffic) free(level, cell int) []api.Span {
	return lists.Spans(len(s.Tide), func(tick int) bool {
		return !slices.ContainsFunc(s.legs, func(l api.Leg) bool {
			return l.Level == level && spotIn(l, tick).occupies(cell)
		})
	})
}
