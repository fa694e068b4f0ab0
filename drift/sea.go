package drift

import (
	"coble/api"
	"coble/chart"
	"coble/checks"
)

// directions is how many directions there are.
const directions = 6

// sea is a drift that is open: it is known to be valid. What it has asked its chart, and the steps that it has found, are
// kept in it, as a step is often asked for again.
type sea struct {
	api.Drift
	beside []neighbours
	wet    [][]int
	known  map[moment]places
}

// neighbours are those of a cell by their direction; the outside, if there is none.
type neighbours struct {
	asked bool
	cells [directions]int
}

// moment is where something with a leeway is in a tick.
type moment struct {
	cell, tick, leeway int
}

func open(d api.Drift) (*sea, api.Errno) {
	s := &sea{Drift: d}
	if !s.isValid() {
		return nil, api.ErrDrift
	}
	s.beside = make([]neighbours, len(d.Chart.Depth))
	s.wet = make([][]int, len(d.Chart.Tide))
	s.known = map[moment]places{}
	return s, api.OK
}

func (s *sea) isValid() bool {
	return chart.Check(s.Chart) == api.OK &&
		len(s.Zones) == len(s.Chart.Depth) &&
		checks.Between(1, api.MaxZones)(len(s.Currents)) && checks.All(s.Zones, s.isZone) &&
		checks.All(s.Currents, s.arePushes) && s.arePushes(s.Wind)
}

func (s *sea) isZone(zone int) bool { return checks.Between(0, len(s.Currents)-1)(zone) }

func (s *sea) arePushes(l []api.Push) bool { return len(l) == s.lastTick() && checks.All(l, isPush) }

func isPush(p api.Push) bool {
	return checks.Between(1, 1<<directions-1)(p.Dirs) && checks.Within(0, api.MaxPush)(p.Steps)
}

func isLeeway(n int) bool { return checks.Between(0, api.MaxLeeway)(n) }

func (s *sea) lastTick() int { return len(s.Chart.Tide) - 1 }

func (s *sea) isCell(cell int) bool { return checks.Between(0, len(s.Chart.Depth)-1)(cell) }

func (s *sea) isPlace(cell int) bool { return cell == outside || s.isCell(cell) }

func (s *sea) isTick(tick int) bool { return checks.Between(0, s.lastTick())(tick) }

// next returns the neighbour of a cell in a direction, or the outside.
func (s *sea) next(cell, direction int) int {
	n := &s.beside[cell]
	if !n.asked {
		n.asked = true
		for d := range n.cells {
			next, e := chart.Next(s.Chart, cell, d)
			if e != api.OK {
				next = outside
			}
			n.cells[d] = next
		}
	}
	return n.cells[direction]
}

// wetFrom returns the least height of the tide with which a cell is not dry in a tick: the water rises as much as the
// tide does, from that with the least height of the span on.
func (s *sea) wetFrom(cell, tick int) int {
	if s.wet[tick] == nil {
		s.wet[tick] = make([]int, len(s.Chart.Depth))
		for i := range s.wet[tick] {
			water, _ := chart.Water(s.Chart, i, tick)
			s.wet[tick][i] = s.Chart.Tide[tick].Low + 1 - water.Low
		}
	}
	return s.wet[tick][cell]
}

// part divides heights of the tide into those with which a cell is dry in a tick, and the others.
func (s *sea) part(cell, tick int, heights api.Span) (dry, wet api.Span) {
	from := s.wetFrom(cell, tick)
	dry = api.Span{Low: heights.Low, High: min(heights.High, from-1)}
	wet = api.Span{Low: max(heights.Low, from), High: heights.High}
	return dry, wet
}

func isEmpty(s api.Span) bool { return s.Low > s.High }
