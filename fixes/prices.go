package fixes

import "coble/api"

// price is what a course pays to be in a cell in a tick.
type price func(tick, cell int) int

// mostDoubt is the greatest doubt that a course can have.
const mostDoubt = api.MaxReports * api.MaxDoubt

// never is the price of what may not be: no course can pay as much for all that may be.
const never = mostDoubt + 1

// doubt is the price with which a course pays its doubt, if it is possible.
func (s search) doubt(tick, cell int) int {
	sum := 0
	for i := range s.untrue[tick][cell].members() {
		if s.Reports[i].Sure {
			return never
		}
		sum += s.Reports[i].Weight
	}
	return sum
}

// demands returns the price of courses of which all reports of a set must be true: they pay 1 for each other report that
// is not, so that the best one of them also tells which greater sets are all true.
func (s search) demands(all set) price {
	return func(tick, cell int) int {
		untrue := s.untrue[tick][cell]
		if untrue&all != 0 {
			return never
		}
		return untrue.size()
	}
}
