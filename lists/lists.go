// Package lists makes lists of numbers that several layers return.
package lists

import (
	"iter"
	"slices"

	"coble/api"
)

// Spans returns the numbers from 0 to n-1 of which something is so, as spans that are as long as possible.
func Spans(n int, is func(int) bool) []api.Span {
	var l []api.Span
	for i := range n {
		last := len(l) - 1
		switch {
		case !is(i):
		case last >= 0 && l[last].High == i-1:
			l[last].High = i
		default:
			l = append(l, api.Span{Low: i, High: i})
		}
	}
	return l
}

// Needed returns those of the numbers from 0 to n-1 that are left when one after the other is taken away as long as the
// others suffice.
func Needed(n int, suffice func([]int) bool) []int {
	left := make([]int, n)
	for i := range left {
		left[i] = i
	}
	for i := range n {
		others := slices.DeleteFunc(slices.Clone(left), func(k int) bool { return k == i })
		if suffice(others) {
			left = others
		}
	}
	return left
}

// Fewest returns the first of the shortest lists of numbers from 0 to n-1 of which something is so, if there is one.
func Fewest(n int, is func([]int) bool) ([]int, bool) {
	for l := range Shortest(n) {
		if is(l) {
			return l, true
		}
	}
	return nil, false
}

// Shortest yields all lists of numbers from 0 to n-1 in ascending order, the shortest first, and of those that are equally
// long that first which has the lower number at the first place at which they differ.
func Shortest(n int) iter.Seq[[]int] {
	return func(yield func([]int) bool) {
		for waiting := [][]int{nil}; len(waiting) > 0; waiting = waiting[1:] {
			l := waiting[0]
			if !yield(l) {
				return
			}
			for next := behind(l); next < n; next++ {
				waiting = append(waiting, Longer(l, next))
			}
		}
	}
}

// behind returns the least number that can follow a list.
func behind(l []int) int {
	if len(l) == 0 {
		return 0
	}
	return l[len(l)-1] + 1
}

// Longer returns a list with one number more; others that begin with the same list are left as they are.
func Longer(l []int, number int) []int {
	return append(l[:len(l):len(l)], number)
}
