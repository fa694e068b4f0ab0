package sweep

import (
	"cmp"
	"slices"

	"coble/api"
)

// fleet is in which cell each unit is in a tick.
type fleet [api.MaxUnits]int

// course is where a fleet has gone, up to a tick.
type course struct {
	fleet
	before *course
	left   left
	sum    int // of what is left
	least  int // what is left in the end is not less, wherever the fleet goes on
}

// isWorse reports whether another course to the same cells leaves no more of any particle.
func (c *course) isWorse(other *course) bool {
	for i, n := range other.left {
		if n > c.left[i] {
			return false
		}
	}
	return true
}

// rivals is with how many others a course is compared, which is only done to save time.
const rivals = 100

// notWorse returns courses to the same cells without those that are worse than others that they are compared with.
func notWorse(l []*course) []*course {
	slices.SortStableFunc(l, func(c, d *course) int {
		return cmp.Or(cmp.Compare(c.sum, d.sum), slices.Compare(c.left[:], d.left[:]))
	})
	l = slices.CompactFunc(l, func(c, d *course) bool { return c.left == d.left })
	var out []*course
	for _, c := range l {
		if !slices.ContainsFunc(out[:min(len(out), rivals)], c.isWorse) {
			out = append(out, c)
		}
	}
	return out
}

// courses are those up to one tick, by where the fleet is in it.
type courses map[fleet][]*course

func (l courses) add(c course) { l[c.fleet] = append(l[c.fleet], kept(c)) }

// kept returns a course that others may go on from: those that are not kept need no memory of their own.
func kept(c course) *course { return &c }

// chosen returns the most promising courses, at most so many.
func (l courses) chosen(width int) []*course {
	var all []*course
	for _, same := range l {
		all = append(all, notWorse(same)...)
	}
	// Courses to the same cells stay in their order, so that it does not matter in which order the map was gone through.
	slices.SortStableFunc(all, func(c, d *course) int {
		return cmp.Or(cmp.Compare(c.least, d.least), cmp.Compare(c.sum, d.sum), slices.Compare(c.fleet[:], d.fleet[:]))
	})
	return all[:min(len(all), width)]
}
