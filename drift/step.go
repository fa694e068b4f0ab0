package drift

import (
	"iter"

	"coble/api"
)

// push is what may push something in a tick: in one of some directions, so many steps as one of a set says.
type push struct {
	tick, dirs, steps int
}

// current returns the push of the current.
func (s *sea) current(cell, tick int) push {
	p := s.Currents[s.Zones[cell]][tick]
	steps := 0
	for n := p.Steps.Low; n <= p.Steps.High; n++ {
		steps |= 1 << n
	}
	return push{tick, p.Dirs, steps}
}

// wind returns the push of the wind, which depends on the leeway.
func (s *sea) wind(tick, leeway int) push {
	p := s.Wind[tick]
	steps := 0
	for force := p.Steps.Low; force <= p.Steps.High; force++ {
		steps |= 1 << (force * leeway / 4)
	}
	return push{tick, p.Dirs, steps}
}

// after returns where something can be after one tick of drift.
func (s *sea) after(m moment) places {
	if m.cell == outside {
		return only(outside)
	}
	p, ok := s.known[m]
	if !ok {
		p = s.drifts(m)
		s.known[m] = p
	}
	return p
}

// drifts follows what is in a cell with all heights of the tide at once: where it comes to depends on them only by which
// cells are dry.
func (s *sea) drifts(m moment) places {
	var p places
	aground, afloat := s.part(m.cell, m.tick, s.Chart.Tide[m.tick])
	if !isEmpty(aground) {
		p.add(m.cell)
	}
	if isEmpty(afloat) {
		return p
	}
	wind := s.wind(m.tick, m.leeway)
	for cell, heights := range s.pushed(s.current(m.cell, m.tick), m.cell, afloat) {
		for end := range s.pushed(wind, cell, heights) {
			p.add(end)
		}
	}
	return p
}

// pushed yields where a push may bring something that is in a cell, each with the heights of the tide with which it does.
// What is outside stays there.
func (s *sea) pushed(p push, cell int, heights api.Span) iter.Seq2[int, api.Span] {
	return func(yield func(int, api.Span) bool) {
		if cell == outside {
			yield(cell, heights)
			return
		}
		for d := range directions {
			if p.dirs>>d&1 == 1 && !s.along(p, d, cell, heights, yield) {
				return
			}
		}
	}
}

// along yields where a push in one direction may bring something, step by step: with those heights with which the next
// cell is dry it has come to its end too early, and goes on with the others.
func (s *sea) along(p push, direction, cell int, heights api.Span, yield func(int, api.Span) bool) bool {
	for steps := p.steps; ; steps >>= 1 {
		ends := steps&1 == 1
		if ends && !yield(cell, heights) {
			return false
		}
		if steps <= 1 {
			return true
		}
		next := s.next(cell, direction)
		if next == outside {
			return yield(outside, heights)
		}
		dry, wet := s.part(next, p.tick, heights)
		if !ends && !isEmpty(dry) && !yield(cell, dry) {
			return false
		}
		if isEmpty(wet) {
			return true
		}
		cell, heights = next, wet
	}
}
