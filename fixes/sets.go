package fixes

import (
	"iter"
	"math/bits"
)

// set is a set of reports: the bit i is 1 if the report i is in it.
type set uint

func setOf(reports ...int) set {
	var l set
	for _, i := range reports {
		l |= 1 << i
	}
	return l
}

func (l set) size() int { return bits.OnesCount(uint(l)) }

// isIn reports whether all of l are in m.
func (l set) isIn(m set) bool { return l&^m == 0 }

// holds reports whether all of m are in l.
func (l set) holds(m set) bool { return m.isIn(l) }

// members yields the reports of a set in ascending order.
func (l set) members() iter.Seq[int] {
	return func(yield func(int) bool) {
		for left := l; left != 0; left &= left - 1 {
			if !yield(bits.TrailingZeros(uint(left))) {
				return
			}
		}
	}
}

// lists yields all sets of n reports as lists in ascending order: the shorter ones first; of those of one length, the one
// with the lower number at the first place at which they differ.
func lists(n int) iter.Seq[[]int] {
	return func(yield func([]int) bool) {
		for all := [][]int{nil}; len(all) > 0; all = longer(all, n) {
			for _, l := range all {
				if !yield(l) {
					return
				}
			}
		}
	}
}

// longer returns the lists that have one number more, in the same order.
func longer(all [][]int, n int) [][]int {
	var out [][]int
	for _, l := range all {
		first := 0
		if len(l) > 0 {
			first = l[len(l)-1] + 1
		}
		for i := first; i < n; i++ {
			out = append(out, extended(l, i))
		}
	}
	return out
}

// extended returns a list with one number more; others that begin with the same list are left as they are.
func extended(l []int, number int) []int {
	return append(l[:len(l):len(l)], number)
}
