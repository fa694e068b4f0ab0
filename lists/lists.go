// Package lists makes lists of numbers that several layers return.
package lists

import (
	"slices"

	"coble/api"
)

// Spans returns the numbers from 0 to n-1 of which something is so, as spans that are as long as possible.
func Spans(n int, is func(int) bool) []api.Span {
	var l []api.Span
	for i := range n {
		last := len(l) - 1
		switch {
		case !is(i):
		case last >= 0 && l[last].High == i-1:
			l[last].High = i
		default:
			l = append(l, api.Span{Low: i, High: i})
		}
	}
	return l
}

// Needed returns those of the numbers from 0 to n-1 that are left when one after the other is taken away as long as the
// others suffice.
func Needed(n int, suffice func([]int) bool) []int {
	left := make([]int, n)
	for i := range left {
		left[i] = i
	}
	for i := range n {
		others := slices.DeleteFunc(slices.Clone(left), func(k int) bool { return k == i })
		if suffice(others) {
			left = others
		}
	}
	return left
}
