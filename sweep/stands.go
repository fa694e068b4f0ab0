package sweep

import (
	"iter"
	"math/bits"
	"slices"

	"coble/api"
)

// set is a set of particles: the bit i is 1 if the particle i is in it.
type set uint16

// members yields the particles of a set in ascending order.
func (l set) members() iter.Seq[int] {
	return func(yield func(int) bool) {
		for left := uint(l); left != 0; left &= left - 1 {
			if !yield(bits.TrailingZeros(left)) {
				return
			}
		}
	}
}

// outlook is which particles a unit can still come upon, by the tick in which it can.
type outlook [api.MaxLooks]set

func (o *outlook) add(p outlook) {
	for tick := range o {
		o[tick] |= p[tick]
	}
}

// holds reports whether all of p are in o.
func (o outlook) holds(p outlook) bool {
	for tick := range o {
		if p[tick]&^o[tick] != 0 {
			return false
		}
	}
	return true
}

// stand is what a unit can do that is in a cell in a tick.
type stand struct {
	isOpen bool // whether it can be there, and go on from there until the search ends
	outlook
	onward []int // in which cells it is to be tried in the next tick
}

// stands returns the stands of a unit by tick and cell. It goes back in time.
func (s search) stands(u api.Unit) [][]stand {
	near := s.near(u)
	all := make([][]stand, s.Ticks)
	var next []stand
	for tick := s.Ticks - 1; tick >= 0; tick-- {
		now := make([]stand, len(near))
		for cell := range now {
			if s.isAfloat(u, cell, tick) {
				now[cell] = s.stand(tick, cell, near[cell], next)
			}
		}
		all[tick], next = now, now
	}
	return all
}

// near returns for each cell those to which a unit can go in a tick, in ascending order.
func (s search) near(u api.Unit) [][]int {
	l := make([][]int, len(s.Drift.Chart.Depth))
	for from := range l {
		for to := range l {
			if s.isNear(u, from, to) {
				l[from] = append(l[from], to)
			}
		}
	}
	return l
}

// stand returns the stand of a unit in a cell with those near it, by those of the next tick.
func (s search) stand(tick, cell int, near []int, next []stand) stand {
	var x stand
	x.outlook[tick] = s.inCell(tick, cell)
	if tick == s.Ticks-1 {
		x.isOpen = true
		return x
	}
	for _, n := range near {
		if next[n].isOpen {
			x.onward = append(x.onward, n)
			x.add(next[n].outlook)
		}
	}
	x.isOpen = len(x.onward) > 0
	if len(s.Units) == 1 {
		x.onward = useful(x.onward, next)
	}
	return x
}

// inCell returns the particles that are in a cell in a tick.
func (s search) inCell(tick, cell int) set {
	var all set
	for i, p := range s.particles {
		if p.Cells[tick] == cell {
			all |= 1 << i
		}
	}
	return all
}

// useful returns those of some cells from which a unit that is alone can come upon something that it could not come upon
// from another one; of several that are the same the first one. A unit that is not alone might need any other one, to be out
// of the way.
func useful(cells []int, next []stand) []int {
	var l []int
	for _, cell := range cells {
		view := next[cell].outlook
		if slices.ContainsFunc(l, func(n int) bool { return next[n].holds(view) }) {
			continue
		}
		l = slices.DeleteFunc(l, func(n int) bool { return view.holds(next[n].outlook) })
		l = append(l, cell)
	}
	return l
}
