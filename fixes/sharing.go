package fixes

import (
	"slices"

	"coble/api"
	"coble/lists"
)

// sharing tells which reports may be of one casualty. It remembers what it has found: as there is often a single course
// for many sets of reports, few of them need a search of their own.
type sharing struct {
	search
	together []set // each of them all true of some course
	opposed  []set // each of them all true of no course
}

func (s search) all() set { return 1<<len(s.Reports) - 1 }

// fit reports whether there is a course of which all reports of a set are true.
func (s *sharing) fit(l set) bool {
	if slices.ContainsFunc(s.together, l.isIn) {
		return true
	}
	if slices.ContainsFunc(s.opposed, l.holds) {
		return false
	}
	_, course, e := s.best(s.demands(l))
	if e != api.OK {
		s.opposed = append(s.opposed, l)
		return false
	}
	s.together = append(s.together, s.trueOf(course))
	return true
}

// trueOf returns the reports that are true of a course.
func (s search) trueOf(course []int) set {
	all := s.all()
	for tick, cell := range course {
		all &^= s.untrue[tick][cell]
	}
	return all
}

// contradiction returns the first list of the fewest reports that are true of no course. ErrNone if there is none.
func (s search) contradiction() ([]int, api.Errno) {
	found := sharing{search: s}
	for l := range lists.Shortest(len(s.Reports)) {
		if !found.fit(setOf(l...)) {
			return l, api.OK
		}
	}
	return nil, api.ErrNone
}

// sources returns the first list of numbers of casualties, one for each report, that has the fewest casualties. ErrNone if
// some report is true of no course.
func (s search) sources() ([]int, api.Errno) {
	found := sharing{search: s}
	for i := range s.Reports {
		if !found.fit(setOf(i)) {
			return nil, api.ErrNone
		}
	}
	for most := range len(s.Reports) + 1 {
		if l, ok := found.share(nil, 0, most); ok {
			return l, api.OK
		}
	}
	return nil, api.ErrNone
}

// share returns the first list that begins with the numbers in l, which are of so many casualties, and has at most so many
// casualties. The first list never leaves a number out, so that each casualty that is new has the next number.
func (s *sharing) share(l []int, casualties, most int) ([]int, bool) {
	if len(l) == len(s.Reports) {
		return l, true
	}
	for number := range min(casualties+1, most) {
		next := lists.Longer(l, number)
		if !s.fit(reportsOf(next, number)) {
			continue
		}
		if full, ok := s.share(next, max(casualties, number+1), most); ok {
			return full, true
		}
	}
	return nil, false
}

// reportsOf returns the reports that are of a casualty.
func reportsOf(l []int, casualty int) set {
	var reports set
	for i, number := range l {
		if number == casualty {
			reports |= setOf(i)
		}
	}
	return reports
}
