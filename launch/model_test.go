package launch_test

import (
	"cmp"
	"iter"
	"math/bits"
	"slices"

	"coble/api"
	"coble/chart"
)

// surelyFloats looks at the water with each height of the tide.
func (p puzzle) surelyFloats(cell, tick int) bool {
	return p.withEachTide(tick, func(height int) bool { return p.c.Depth[cell]+height-p.c.Swell[tick] >= p.b.Draught })
}

// isOpen reports whether the boat can be launched in a tick, and taken in.
func (p puzzle) isOpen(tick int) bool {
	return p.c.Swell[tick] <= p.r.Surf && p.isCalm(tick) && p.surelyFloats(p.r.Cell, tick) &&
		p.withEachTide(tick, func(height int) bool { return p.r.Least <= height && height <= p.r.Most })
}

func (p puzzle) isCalm(tick int) bool { return p.c.Swell[tick] <= p.b.Seas }

func (p puzzle) withEachTide(tick int, is func(height int) bool) bool {
	for height := p.c.Tide[tick].Low; height <= p.c.Tide[tick].High; height++ {
		if !is(height) {
			return false
		}
	}
	return true
}

// at returns the puzzle of a launch in another tick.
func (p puzzle) at(tick int) puzzle {
	p.tick = tick
	return p
}

// passages yields all passages of any length that begin at the ramp, in a tick in which it is open, through no swell that
// the boat cannot stand.
func (p puzzle) passages() iter.Seq[[]int] {
	return func(yield func([]int) bool) {
		if p.isOpen(p.tick) {
			p.longer(p.nearCells(), []int{p.r.Cell}, yield)
		}
	}
}

func (p puzzle) longer(near [][]int, cells []int, yield func([]int) bool) bool {
	if !yield(cells) {
		return false
	}
	next := p.tick + len(cells)
	if next == len(p.c.Tide) || !p.isCalm(next) {
		return true
	}
	for _, cell := range near[cells[len(cells)-1]] {
		if p.surelyFloats(cell, next) && !p.longer(near, append(slices.Clone(cells), cell), yield) {
			return false
		}
	}
	return true
}

// nearCells returns for each cell those that are at most one step away.
func (p puzzle) nearCells() [][]int {
	l := make([][]int, len(p.c.Depth))
	for a := range l {
		for b := range l {
			if n, _ := chart.Apart(p.c, a, b); n <= 1 {
				l[a] = append(l[a], b)
			}
		}
	}
	return l
}

// isPassage reports whether cells are one of the passages, without going through them.
func (p puzzle) isPassage(cells []int) bool {
	if len(cells) == 0 || p.tick+len(cells) > len(p.c.Tide) || cells[0] != p.r.Cell || !p.isOpen(p.tick) {
		return false
	}
	for i, cell := range cells {
		n, e := chart.Apart(p.c, cells[max(i-1, 0)], cell)
		if e != api.OK || n > 1 || !p.isCalm(p.tick+i) || !p.surelyFloats(cell, p.tick+i) {
			return false
		}
	}
	return true
}

// answers reports whether a passage is a voyage for the call.
func (p puzzle) answers(cells []int) bool {
	last := len(cells) - 1
	if cells[last] != p.r.Cell || !p.isOpen(p.tick+last) {
		return false
	}
	there := 0
	for _, cell := range cells {
		if cell != p.k.Cell {
			there = 0
		} else if there++; there > p.k.Stay {
			return true
		}
	}
	return false
}

// burns returns what a passage burns.
func (p puzzle) burns(cells []int) int {
	n := 0
	for i := 1; i < len(cells); i++ {
		if cells[i] != cells[i-1] {
			n += p.b.Move
		} else {
			n += p.b.Idle
		}
	}
	return n
}

// verdict is the reason, and with the reason 0 what is burnt, and how many ticks the voyage has.
type verdict struct{ reason, burns, ticks int }

// decide goes through all passages one by one.
func (p puzzle) decide() verdict {
	if !p.isOpen(p.tick) {
		return verdict{reason: 1}
	}
	best := verdict{reason: 2}
	for cells := range p.passages() {
		if best.reason == 2 && slices.Contains(cells, p.k.Cell) {
			best.reason = 3
		}
		v := verdict{0, p.burns(cells), len(cells)}
		if p.answers(cells) && (best.reason > 0 || v.compare(best) < 0) {
			best = v
		}
	}
	if best.reason == 0 && best.burns+p.b.Reserve > p.fuel {
		return verdict{reason: 4}
	}
	return best
}

func (v verdict) compare(w verdict) int {
	return cmp.Or(cmp.Compare(v.burns, w.burns), cmp.Compare(v.ticks, w.ticks))
}

// decideByMoves finds the same on larger charts, from the fewest moves that chart tells for each part of the way: to the
// call, and home from there after the stay.
func (p puzzle) decideByMoves() verdict {
	if !p.isOpen(p.tick) {
		return verdict{reason: 1}
	}
	ticks := p.tick
	for ticks < len(p.c.Tide) && p.isCalm(ticks) {
		ticks++
	}
	first, _ := chart.Arrive(p.c, p.b.Draught, p.r.Cell, p.tick)
	if first[p.k.Cell] < 0 || first[p.k.Cell] >= ticks {
		return verdict{reason: 2}
	}
	best := verdict{reason: 3}
	for there := p.tick; there < ticks; there++ {
		for until := there + p.k.Stay; until < ticks; until++ {
			if v, ok := p.by(there, until); ok && (best.reason > 0 || v.compare(best) < 0) {
				best = v
			}
		}
	}
	if best.reason == 0 && best.burns+p.b.Reserve > p.fuel {
		return verdict{reason: 4}
	}
	return best
}

// by is about the voyages on which the boat stays at the call from a tick on, and is taken in in another one.
func (p puzzle) by(there, until int) (verdict, bool) {
	for tick := there; tick <= there+p.k.Stay; tick++ {
		if !p.surelyFloats(p.k.Cell, tick) {
			return verdict{}, false
		}
	}
	out, _ := chart.Moves(p.c, p.b.Draught, p.r.Cell, p.tick, there)
	home, _ := chart.Moves(p.c, p.b.Draught, p.k.Cell, there+p.k.Stay, until)
	if out[p.k.Cell] < 0 || home[p.r.Cell] < 0 || !p.isOpen(until) {
		return verdict{}, false
	}
	moves := out[p.k.Cell] + home[p.r.Cell]
	return verdict{0, moves*p.b.Move + (until-p.tick-moves)*p.b.Idle, until - p.tick + 1}, true
}

// firstList returns the first of the shortest lists of which something is so, of all lists of numbers below n; they are
// gone through as the bits of a number.
func firstList(n int, is func(l []int) bool) ([]int, bool) {
	var best []int
	found := false
	for set := range 1 << n {
		var l []int
		for rest := uint(set); rest != 0; rest &= rest - 1 {
			l = append(l, bits.TrailingZeros(rest))
		}
		if is(l) && (!found || len(l) < len(best) || len(l) == len(best) && slices.Compare(l, best) < 0) {
			best, found = l, true
		}
	}
	return best, found
}
