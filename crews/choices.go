package crews

import (
	"iter"
	"slices"
)

// choices yields all lists that have one element for each place, of those that it may be given to, and none of them twice.
// They come in the order of the elements for the first place at which they differ.
func choices[T comparable](places [][]T) iter.Seq[[]T] {
	return func(yield func([]T) bool) { choose(nil, places, yield) }
}

// choose yields the lists that begin with those who sit already, until there are no more, or no more are asked for.
func choose[T comparable](seated []T, places [][]T, yield func([]T) bool) bool {
	if len(places) == 0 {
		return yield(slices.Clone(seated))
	}
next:
	for _, x := range places[0] {
		for _, y := range seated {
			if x == y {
				continue next
			}
		}
		if !choose(append(seated, x), places[1:], yield) {
			return false
		}
	}
	return true
}
