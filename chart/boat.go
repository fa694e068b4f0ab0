package chart

import (
	"iter"
	"slices"

	"coble/api"
	"coble/checks"
)

// The two ways in which the ticks of passages may be gone through.
const (
	onward = 1
	back   = -1
)

// boat is a boat of a draught on an open chart.
type boat struct {
	sea
	draught int
}

// embark returns a boat, about some cells and ticks of its chart.
func embark(c api.Chart, draught int, cells, ticks []int) (boat, api.Errno) {
	s, e := open(c, cells, ticks)
	if e != api.OK {
		return boat{}, e
	}
	if !isDraught(draught) {
		return boat{}, api.ErrArg
	}
	return boat{s, draught}, api.OK
}

func isDraught(n int) bool { return checks.Between(1, api.MaxDraught)(n) }

func (b boat) surelyFloats(cell, tick int) bool { return b.water(cell, tick).Low >= b.draught }

func (b boat) mayFloat(cell, tick int) bool { return b.water(cell, tick).High >= b.draught }

// nowhere returns -1 for each cell.
func (b boat) nowhere() []int {
	return slices.Repeat([]int{-1}, len(b.Depth))
}

// passages yields the ticks of all passages that begin in a cell, in a tick, and for each tick the least number of moves
// with which they lead to each cell; -1, if none does. Those that end there are gone through back in time: read
// backwards they obey the same rules, because the neighbour of a cell has that cell as its neighbour.
func (b boat) passages(cell, tick, step int) iter.Seq2[int, []int] {
	return func(yield func(int, []int) bool) {
		moves := b.nowhere()
		if b.surelyFloats(cell, tick) {
			moves[cell] = 0
		}
		for t := tick; yield(t, moves) && b.isTick(t+step); {
			t += step
			moves = b.after(moves, t)
		}
	}
}

// after returns the least numbers of moves in a tick, from those in the tick gone through before it.
func (b boat) after(moves []int, tick int) []int {
	l := b.nowhere()
	for cell := range l {
		if b.surelyFloats(cell, tick) {
			l[cell] = b.fewest(moves, cell)
		}
	}
	return l
}

// fewest returns with how many moves a boat can be in a cell that was in it or next to it the tick before.
func (b boat) fewest(moves []int, cell int) int {
	least := moves[cell]
	for n := range b.neighbours(cell) {
		if moves[n] >= 0 && (least < 0 || moves[n]+1 < least) {
			least = moves[n] + 1
		}
	}
	return least
}

// nearest returns for each cell the first tick gone through in which passages are there; -1, if they never are.
func (b boat) nearest(cell, tick, step int) []int {
	l := b.nowhere()
	for t, moves := range b.passages(cell, tick, step) {
		for i, n := range moves {
			if n >= 0 && l[i] < 0 {
				l[i] = t
			}
		}
	}
	return l
}

// trace returns the first of the passages that end in a cell: as they are told apart by the last place at which they
// differ, the least cell is taken at each place, from the last one back.
func (b boat) trace(past [][]int, to int) []int {
	cells := make([]int, len(past))
	for i, moves := range slices.Backward(past) {
		if i < len(past)-1 {
			to = b.before(moves, to)
		}
		cells[i] = to
	}
	return cells
}

// before returns the least cell from which a boat can come to a cell, of those in which it can be.
func (b boat) before(moves []int, to int) int {
	least := len(moves)
	if moves[to] >= 0 {
		least = to
	}
	for n := range b.neighbours(to) {
		if moves[n] >= 0 && n < least {
			least = n
		}
	}
	return least
}
