package launch

import "iter"

// fewest returns the first of the shortest lists of numbers from 0 to n-1 of which something is so, if there is one.
func fewest(n int, is func([]int) bool) ([]int, bool) {
	for l := range lists(n) {
		if is(l) {
			return l, true
		}
	}
	return nil, false
}

// lists yields all lists of numbers from 0 to n-1 in ascending order, the shortest first, and of those that are equally
// long that first which has the lower number at the first place at which they differ.
func lists(n int) iter.Seq[[]int] {
	return func(yield func([]int) bool) {
		for waiting := [][]int{nil}; len(waiting) > 0; waiting = waiting[1:] {
			l := waiting[0]
			if !yield(l) {
				return
			}
			for next := behind(l); next < n; next++ {
				// Several lists go on from the same one: each gets memory of its own.
				waiting = append(waiting, append(l[:len(l):len(l)], next))
			}
		}
	}
}

// behind returns the least number that can follow a list.
func behind(l []int) int {
	if len(l) == 0 {
		return 0
	}
	return l[len(l)-1] + 1
}
