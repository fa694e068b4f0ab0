package fixes

import (
	"iter"
	"math/bits"
)

// set is a set of reports: the bit i is 1 if the report i is in it.
type set uint

func setOf(reports ...int) set {
	var l set
	for _, i := range reports {
		l |= 1 << i
	}
	return l
}

func (l set) size() int { return bits.OnesCount(uint(l)) }

// isIn reports whether all of l are in m.
func (l set) isIn(m set) bool { return l&^m == 0 }

// holds reports whether all of m are in l.
func (l set) holds(m set) bool { return m.isIn(l) }

// members yields the reports of a set in ascending order.
func (l set) members() iter.Seq[int] {
	return func(yield func(int) bool) {
		for left := l; left != 0; left &= left - 1 {
			if !yield(bits.TrailingZeros(uint(left))) {
				return
			}
		}
	}
}
