package sweep

import (
	"iter"
	"slices"

	"coble/api"
)

// planner looks for the best plan of a search.
type planner struct {
	search
	stands [][][]stand // by unit, tick and cell
	groups [][]set     // by tick: the particles in one cell, or outside
	best   *course     // of those through all ticks
}

// A planner first goes on with few courses, so that it soon knows a good plan; and then with all those that may lead to a
// better one.
const (
	few       = 16
	unlimited = 1 << 62
)

// best returns the course of the best plan; nil, if there is no plan.
func (s search) best() *course {
	p := planner{search: s}
	for _, u := range s.Units {
		p.stands = append(p.stands, s.stands(u))
	}
	for tick := range s.Ticks {
		p.groups = append(p.groups, s.groupsIn(tick))
	}
	if !p.canStart() {
		return nil
	}
	p.improve(few)
	p.improve(unlimited)
	return p.best
}

func (s search) groupsIn(tick int) []set {
	var l []set
	for _, p := range s.particles {
		if g := s.inCell(tick, p.Cells[tick]); !slices.Contains(l, g) {
			l = append(l, g)
		}
	}
	return l
}

// start returns where the units start.
func (s search) start() fleet {
	var f fleet
	for i, u := range s.Units {
		f[i] = u.Cell
	}
	return f
}

func (p *planner) canStart() bool {
	for i, u := range p.Units {
		if !p.stands[i][0][u.Cell].isOpen {
			return false
		}
	}
	return p.areApart(p.start())
}

// improve looks for better plans, by so many courses up to each tick.
func (p *planner) improve(width int) {
	now := courses{}
	p.consider(now, p.arrive(&course{left: p.atFirst()}, p.start(), 0), 0)
	for tick := 1; tick < p.Ticks; tick++ {
		next := courses{}
		for _, c := range now.chosen(width) {
			for f := range p.following(c.fleet, tick) {
				p.consider(next, p.arrive(c, f, tick), tick)
			}
		}
		now = next
	}
}

// consider takes a course up to a tick in, unless it cannot lead to a better plan.
func (p *planner) consider(l courses, c course, tick int) {
	switch {
	case p.best != nil && c.least >= p.best.sum:
	case tick == p.Ticks-1:
		p.best = kept(c)
	default:
		l.add(c)
	}
}

// following yields the fleets that may follow on one in a tick.
func (p *planner) following(f fleet, tick int) iter.Seq[fleet] {
	return func(yield func(fleet) bool) { p.move(f, 0, tick, yield) }
}

// move moves the units from one of them on.
func (p *planner) move(f fleet, unit, tick int, yield func(fleet) bool) bool {
	if unit == len(p.Units) {
		return yield(f)
	}
	next := f
cells:
	for _, cell := range p.stands[unit][tick-1][f[unit]].onward {
		for _, taken := range f[:unit] {
			if taken == cell {
				continue cells
			}
		}
		next[unit] = cell
		if !p.move(next, unit+1, tick, yield) {
			return false
		}
	}
	return true
}

// arrive returns the course that goes on to the cells of a fleet in a tick.
func (p *planner) arrive(before *course, f fleet, tick int) course {
	c := course{fleet: f, before: before, left: before.left}
	for i, u := range p.Units {
		for k := range p.stands[i][tick][f[i]].outlook[tick].members() {
			c.left[k] = c.left[k] / 100 * (100 - u.Chance)
		}
	}
	c.sum = c.left.sum()
	c.least = p.least(&c, tick)
	return c
}

// least returns how much is left in the end at least: a look that comes later detects no more than it would now.
func (p *planner) least(c *course, tick int) int {
	least := c.sum
	for later := tick + 1; later < p.Ticks && least > 0; later++ {
		g := p.glimpse(c, tick, later)
		least -= g.most(0, 0)
	}
	return least
}

// glimpse is a later tick as a course has it before it.
type glimpse struct {
	units  []api.Unit
	reach  [api.MaxUnits]set // by unit: the particles that it can come upon then
	groups []set             // of particles in one cell then, or outside
	worth  left              // by group: one percent of what is left of it
}

func (p *planner) glimpse(c *course, tick, later int) glimpse {
	g := glimpse{units: p.Units, groups: p.groups[later]}
	for i := range p.Units {
		g.reach[i] = p.stands[i][tick][c.fleet[i]].outlook[later]
	}
	for i, group := range g.groups {
		for k := range group.members() {
			g.worth[i] += c.left[k] / 100
		}
	}
	return g
}

// most returns the most that the units from one of them on can detect, each in a cell of its own.
func (g *glimpse) most(unit int, taken set) int {
	if unit == len(g.units) {
		return 0
	}
	best := g.most(unit+1, taken)
	for i, group := range g.groups {
		if group&g.reach[unit]&^taken != 0 {
			best = max(best, g.worth[i]*g.units[unit].Chance+g.most(unit+1, taken|group))
		}
	}
	return best
}

// plan returns the cells of each unit, tick by tick.
func (s search) plan(c *course) [][]int {
	plan := make([][]int, len(s.Units))
	for i := range plan {
		plan[i] = make([]int, s.Ticks)
	}
	for tick := s.Ticks - 1; tick >= 0; tick-- {
		for i := range plan {
			plan[i][tick] = c.fleet[i]
		}
		c = c.before
	}
	return plan
}
