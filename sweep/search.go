package sweep

import (
	"slices"

	"coble/api"
	"coble/chart"
	"coble/checks"
	"coble/drift"
)

// outside is where a target is that has left the chart.
const outside = -1

// search is a hunt that is open: it is known to be valid, and so are the particles, if there are any.
type search struct {
	api.Hunt
	particles []api.Particle
}

func open(h api.Hunt) (search, api.Errno) {
	s := search{Hunt: h}
	if !s.isValid() {
		return search{}, api.ErrHunt
	}
	return s, api.OK
}

// begin opens a hunt for particles.
func begin(h api.Hunt, l []api.Particle) (search, api.Errno) {
	s, e := open(h)
	if e != api.OK {
		return search{}, e
	}
	if !s.areParticles(l) {
		return search{}, api.ErrParticle
	}
	s.particles = l
	return s, api.OK
}

// beginWith opens a hunt for particles, to be done by a plan.
func beginWith(h api.Hunt, l []api.Particle, plan [][]int) (search, api.Errno) {
	s, e := begin(h, l)
	if e != api.OK {
		return search{}, e
	}
	if e := s.checkPlan(plan); e != api.OK {
		return search{}, e
	}
	return s, api.OK
}

func (s search) isValid() bool {
	return drift.Check(s.Drift) == api.OK && checks.Between(1, len(s.Drift.Chart.Tide))(s.Ticks) &&
		checks.Between(1, api.MaxUnits)(len(s.Units)) && s.looks() <= api.MaxLooks && checks.All(s.Units, s.isUnit)
}

// looks returns how many times a unit looks into a cell.
func (s search) looks() int { return len(s.Units) * s.Ticks }

func (s search) isUnit(u api.Unit) bool {
	return s.isCell(u.Cell) && checks.Between(0, api.MaxSteps)(u.Reach) &&
		checks.Between(0, api.MaxDraught)(u.Draught) && checks.Between(0, 100)(u.Chance)
}

func (s search) isCell(cell int) bool { return checks.Between(0, len(s.Drift.Chart.Depth)-1)(cell) }

func (s search) isPlace(cell int) bool { return cell == outside || s.isCell(cell) }

// areParticles also looks at the weights one by one, so that their sum is not too large.
func (s search) areParticles(l []api.Particle) bool {
	if !checks.Between(1, api.MaxParticles)(len(l)) || !checks.All(l, s.isParticle) {
		return false
	}
	sum := 0
	for _, p := range l {
		sum += p.Weight
	}
	return sum <= api.MaxWeights
}

func (s search) isParticle(p api.Particle) bool {
	return checks.Between(1, api.MaxWeights)(p.Weight) && len(p.Cells) == s.Ticks && checks.All(p.Cells, s.isPlace)
}

func isRule(r api.Rule) bool {
	return checks.Between(0, 100)(r.Percent) && checks.Between(0, api.MaxTicks)(r.Hope)
}

func (s search) checkPlan(plan [][]int) api.Errno {
	if len(plan) != len(s.Units) || !s.areCourses(plan) {
		return api.ErrPlan
	}
	for tick := range s.Ticks {
		if !s.areApart(fleetOf(plan, tick)) {
			return api.ErrPlan
		}
	}
	return api.OK
}

// areApart reports whether no two units are in one cell.
func (s search) areApart(f fleet) bool {
	for i := range s.Units {
		if slices.Contains(f[:i], f[i]) {
			return false
		}
	}
	return true
}

// areCourses reports whether each unit can go by its cells.
func (s search) areCourses(plan [][]int) bool {
	for i, cells := range plan {
		if len(cells) != s.Ticks || !checks.All(cells, s.isCell) || cells[0] != s.Units[i].Cell {
			return false
		}
		for tick, cell := range cells {
			if !s.isAfloat(s.Units[i], cell, tick) || !s.isNear(s.Units[i], cells[max(tick-1, 0)], cell) {
				return false
			}
		}
	}
	return true
}

// isAfloat reports whether a unit can be in a cell in a tick: an aircraft always can.
func (s search) isAfloat(u api.Unit, cell, tick int) bool {
	if u.Draught == 0 {
		return true
	}
	sure, _, _ := chart.Floats(s.Drift.Chart, u.Draught, cell, tick)
	return sure
}

// isNear reports whether a unit can go from a cell to another one in a tick.
func (s search) isNear(u api.Unit, from, to int) bool {
	n, _ := chart.Apart(s.Drift.Chart, from, to)
	return n <= u.Reach
}

// fleetOf returns in which cells the units of a plan are in a tick.
func fleetOf(plan [][]int, tick int) fleet {
	var f fleet
	for i, cells := range plan {
		f[i] = cells[tick]
	}
	return f
}
