package sweep_test

import (
	"iter"
	"math/big"
	"slices"

	"coble/api"
	"coble/drift"
)

// The model tries all that the units can do tick by tick, and all histories step by step. Of the other packages it asks
// drift alone, for one step at a time.

// model is a hunt, and how far its cells are apart.
type model struct {
	api.Hunt
	apart [][]int
}

// fleet is where the units are in a tick.
type fleet [api.MaxUnits]int

func look(h api.Hunt) model { return model{h, distances(h.Drift.Chart)} }

// distances tries for each way whether it is shorter over a third cell.
func distances(c api.Chart) [][]int {
	all := make([][]int, len(c.Depth))
	for a := range all {
		for b := range all {
			steps := len(all)
			if a == b {
				steps = 0
			} else if adjoin(c, a, b) {
				steps = 1
			}
			all[a] = append(all[a], steps)
		}
	}
	for over := range all {
		for a := range all {
			for b := range all {
				all[a][b] = min(all[a][b], all[a][over]+all[over][b])
			}
		}
	}
	return all
}

// adjoin reports whether cells are neighbours, by how many halves of a cell and how many rows lie between them.
func adjoin(c api.Chart, a, b int) bool {
	rows := a/c.Wide - b/c.Wide
	halves := 2*(a%c.Wide-b%c.Wide) + a/c.Wide%2 - b/c.Wide%2
	return rows == 0 && halves*halves == 4 || rows*rows == 1 && halves*halves == 1
}

// mayBe reports whether a unit may be in a cell in a tick: it asks each height of the tide by itself.
func (m model) mayBe(unit, cell, tick int) bool {
	c, draught := m.Drift.Chart, m.Units[unit].Draught
	for h := c.Tide[tick].Low; h <= c.Tide[tick].High; h++ {
		if draught > 0 && c.Depth[cell]+h-c.Swell[tick] < draught {
			return false
		}
	}
	return true
}

// isPlan follows the chapter word by word.
func (m model) isPlan(plan [][]int) bool {
	if len(plan) != len(m.Units) {
		return false
	}
	for i, cells := range plan {
		if len(cells) != m.Ticks || cells[0] != m.Units[i].Cell {
			return false
		}
		for tick, cell := range cells {
			if cell < 0 || cell >= len(m.apart) || !m.mayBe(i, cell, tick) || tick > 0 && m.apart[cells[tick-1]][cell] > m.Units[i].Reach {
				return false
			}
			for _, other := range plan[:i] {
				if other[tick] == cell {
					return false
				}
			}
		}
	}
	return true
}

// start returns where the units are in the tick 0, if they may be there.
func (m model) start() (f fleet, ok bool) {
	for i, u := range m.Units {
		if !m.mayBe(i, u.Cell, 0) || slices.Contains(f[:i], u.Cell) {
			return f, false
		}
		f[i] = u.Cell
	}
	return f, true
}

// next yields all fleets that may follow on one in a tick.
func (m model) next(f fleet, tick int) iter.Seq[fleet] {
	return func(yield func(fleet) bool) {
		var place func(to fleet, unit int) bool
		place = func(to fleet, unit int) bool {
			if unit == len(m.Units) {
				return yield(to)
			}
			for cell := range m.apart {
				if m.apart[f[unit]][cell] > m.Units[unit].Reach || !m.mayBe(unit, cell, tick) || slices.Contains(to[:unit], cell) {
					continue
				}
				to[unit] = cell
				if !place(to, unit+1) {
					return false
				}
			}
			return true
		}
		place(fleet{}, 0)
	}
}

// whole is what a miss is counted in: 100 for each look.
func (m model) whole() int {
	n := 1
	for range len(m.Units) * m.Ticks {
		n *= 100
	}
	return n
}

// missed multiplies a miss by what the units leave in a tick in a place, of 100 for each of them.
func (m model) missed(miss int, f fleet, place int) int {
	for i, u := range m.Units {
		if f[i] == place {
			miss *= 100 - u.Chance
		} else {
			miss *= 100
		}
	}
	return miss
}

// miss returns the miss of a path by the first ticks of a plan.
func (m model) miss(plan [][]int, path []int, ticks int) int {
	miss := 1
	for tick, place := range path[:m.Ticks] {
		f := fleet{-9, -9, -9}
		for i := range plan {
			if tick < ticks {
				f[i] = plan[i][tick]
			}
		}
		miss = m.missed(miss, f, place)
	}
	return miss
}

// left returns the weights times the misses after the first ticks of a plan, and their sum.
func (m model) left(l []api.Particle, plan [][]int, ticks int) (each []int, sum int) {
	for _, p := range l {
		n := p.Weight * m.miss(plan, p.Cells, ticks)
		each, sum = append(each, n), sum+n
	}
	return each, sum
}

// all returns the sum of all weights, in the same parts.
func (m model) all(l []api.Particle) int {
	_, sum := m.left(l, nil, 0)
	return sum
}

// chance returns the chance of the first ticks of a plan.
func (m model) chance(l []api.Particle, plan [][]int, ticks int) api.Share {
	_, sum := m.left(l, plan, ticks)
	return ratio(m.all(l)-sum, m.all(l))
}

// ratio returns a quotient in lowest terms.
func ratio(over, under int) api.Share {
	r := big.NewRat(int64(over), int64(under))
	return api.Share{Over: int(r.Num().Int64()), Under: int(r.Denom().Int64())}
}

// compare returns -1, 0 or 1, as a share is less than another one, the same, or greater.
func compare(a, b api.Share) int { return rat(a).Cmp(rat(b)) }

func rat(s api.Share) *big.Rat { return big.NewRat(int64(s.Over), int64(s.Under)) }

// best goes through all that the units can do; what comes to the same cells with the same misses goes on as one. It returns
// the greatest chance, if there is a plan.
func (m model) best(l []api.Particle) (chance api.Share, ok bool) {
	type state struct {
		fleet
		left [api.MaxParticles]int
	}
	arrive := func(before state, f fleet, tick int) state {
		s := state{fleet: f}
		for i, p := range l {
			s.left[i] = m.missed(before.left[i], f, p.Cells[tick])
		}
		return s
	}
	at, ok := m.start()
	if !ok {
		return share(0, 0), false
	}
	var begin state
	for i, p := range l {
		begin.left[i] = p.Weight
	}
	now := map[state]bool{arrive(begin, at, 0): true}
	for tick := 1; tick < m.Ticks; tick++ {
		after := map[state]bool{}
		for s := range now {
			for f := range m.next(s.fleet, tick) {
				after[arrive(s, f, tick)] = true
			}
		}
		now = after
	}
	least := -1
	for s := range now {
		sum := 0
		for _, n := range s.left {
			sum += n
		}
		if least < 0 || sum < least {
			least = sum
		}
	}
	if least < 0 {
		return share(0, 0), false
	}
	return ratio(m.all(l)-least, m.all(l)), true
}

// history is a history of a drifter: the places from the tick At on.
type history struct {
	leeway int
	cells  []int
}

// histories returns all possible histories, step by step.
func histories(p puzzle) []history {
	var all []history
	last := len(p.h.Drift.Chart.Tide) - 1
	for leeway := p.x.Leeway.Low; leeway <= p.x.Leeway.High; leeway++ {
		steps := map[[2]int][]int{}
		var goOn func(cells []int)
		goOn = func(cells []int) {
			tick, place := p.x.At+len(cells)-1, cells[len(cells)-1]
			if !agrees(p.seen, tick, place) {
				return
			}
			if tick == last {
				all = append(all, history{leeway, slices.Clone(cells)})
				return
			}
			at := [2]int{tick, place}
			if steps[at] == nil {
				steps[at], _ = drift.Step(p.h.Drift, place, tick, leeway)
			}
			for _, next := range steps[at] {
				goOn(append(cells, next))
			}
		}
		for _, cell := range p.x.Cells {
			goOn([]int{cell})
		}
	}
	return all
}

func agrees(seen []api.Sighting, tick, place int) bool {
	for _, s := range seen {
		if s.Tick == tick && slices.Contains(s.Cells, place) != s.Seen {
			return false
		}
	}
	return true
}

// path returns the places of a history in the ticks of the search; -1 before it begins.
func (p puzzle) path(h history) []int {
	l := slices.Concat(slices.Repeat([]int{-1}, p.x.At), h.cells)
	return l[:p.h.Ticks]
}

// detected returns the chance with which a history is detected.
func (p puzzle) detected(h history) api.Share {
	m := look(p.h)
	return ratio(m.whole()-m.miss(p.plan, p.path(h), p.h.Ticks), m.whole())
}
