// Package checks holds what the layers ask of their arguments.
package checks

import "coble/api"

// All reports whether something is so of all elements of a list.
func All[T any](l []T, is func(T) bool) bool {
	for _, x := range l {
		if !is(x) {
			return false
		}
	}
	return true
}

// Between returns what reports whether a number is from low to high.
func Between(low, high int) func(int) bool {
	return func(n int) bool { return low <= n && n <= high }
}

// Within returns what reports whether a span is not empty, and lies from low to high.
func Within(low, high int) func(api.Span) bool {
	return func(s api.Span) bool { return low <= s.Low && s.Low <= s.High && s.High <= high }
}

// Ascends reports whether numbers are in strictly ascending order.
func Ascends(l []int) bool {
	for i := 1; i < len(l); i++ {
		if l[i-1] >= l[i] {
			return false
		}
	}
	return true
}
