package drift

import (
	"iter"
	"math/bits"
	"slices"
)

// outside is where all is that has left the chart.
const outside = -1

// places is a set of cells, and of the outside: the bit of each of them is its number and 1, counted through all words.
// Three words are enough for the largest chart.
type places [3]uint64

// only returns the set of some cells, or of the outside.
func only(cells ...int) places {
	var p places
	for _, cell := range cells {
		p.add(cell)
	}
	return p
}

func (p *places) add(cell int) {
	bit := cell - outside
	p[bit/64] |= 1 << (bit % 64)
}

func (p places) isEmpty() bool { return p == places{} }

// or returns what is in one of two sets.
func (p places) or(q places) places {
	for i := range p {
		p[i] |= q[i]
	}
	return p
}

// and returns what is in both of two sets.
func (p places) and(q places) places {
	for i := range p {
		p[i] &= q[i]
	}
	return p
}

// but returns what is in the first of two sets alone.
func (p places) but(q places) places {
	for i := range p {
		p[i] &^= q[i]
	}
	return p
}

// all yields the cells in ascending order, the outside first.
func (p places) all() iter.Seq[int] {
	return func(yield func(int) bool) {
		for i, word := range p {
			for ; word != 0; word &= word - 1 {
				if !yield(64*i + bits.TrailingZeros64(word) + outside) {
					return
				}
			}
		}
	}
}

func (p places) list() []int { return slices.Collect(p.all()) }
