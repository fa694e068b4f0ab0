package crews_test

import (
	"slices"

	"coble/api"
)

// What is here tries out all windows, all lists of hands, and all lists of silent hands, as the chapter tells it.

// mayServe reports whether a hand may serve in some spans: it counts the service in all windows that have a tick of them.
func mayServe(s api.Station, hand int, service ...api.Span) bool {
	serves, isNew := map[int]bool{}, map[int]bool{}
	for _, x := range s.Hands[hand].Log {
		for tick := x.Low; tick <= x.High; tick++ {
			serves[tick] = true
		}
	}
	for _, x := range service {
		for tick := x.Low; tick <= x.High; tick++ {
			serves[tick], isNew[tick] = true, true
		}
	}
	for first := range isNew {
		for low := first - s.Window + 1; low <= first; low++ {
			n := 0
			for tick := low; tick < low+s.Window; tick++ {
				if serves[tick] {
					n++
				}
			}
			if n > s.Duty {
				return false
			}
		}
	}
	return true
}

// seatings calls yield with all lists of so many numbers below n, in order, until it returns false.
func seatings(n, seats int, yield func([]int) bool) {
	l := make([]int, seats)
	for yield(slices.Clone(l)) {
		i := seats - 1
		for ; i >= 0 && l[i] == n-1; i-- {
			l[i] = 0
		}
		if i < 0 {
			return
		}
		l[i]++
	}
}

// fill reports whether hands are different, and have the skills of their seats.
func fill(s api.Station, seats, who []int) bool {
	for i, hand := range who {
		if s.Hands[hand].Skills&seats[i] != seats[i] || slices.Contains(who[:i], hand) {
			return false
		}
	}
	return true
}

// byMuster tries all hands at all ticks.
func (p puzzle) byMuster() (tick int, who []int, ok bool) {
	for tick := p.call; tick <= p.call+100; tick++ {
		var there []bool
		for i, h := range p.s.Hands {
			there = append(there, h.Answer == api.Comes && p.call+h.Away.High <= tick && mayServe(p.s, i, span(tick, tick+p.length-1)))
		}
		seatings(len(p.s.Hands), len(p.seats), func(l []int) bool {
			ok = fill(p.s, p.seats, l) && !slices.ContainsFunc(l, func(i int) bool { return !there[i] })
			who = l
			return !ok
		})
		if ok {
			return tick, who, true
		}
	}
	return 0, nil, false
}

// byLacking takes one seat after the other away.
func (p puzzle) byLacking() ([]int, bool) {
	if _, _, ok := p.byMuster(); ok {
		return nil, false
	}
	all := p.seats
	var left []int
	for i := range all {
		left = append(left, i)
	}
	for i := range all {
		p.seats = nil
		var others []int
		for _, k := range left {
			if k != i {
				others, p.seats = append(others, k), append(p.seats, all[k])
			}
		}
		if _, _, ok := p.byMuster(); !ok {
			left = others
		}
	}
	return left, true
}

// subsets returns all parts of a list of at most so many elements: the fewest first, then that with the lower number at the
// first place at which they differ.
func subsets(l []int, most int) [][]int {
	var all [][]int
	for set := range 1 << len(l) {
		var part []int
		for i, x := range l {
			if set>>i&1 == 1 {
				part = append(part, x)
			}
		}
		if len(part) <= most {
			all = append(all, part)
		}
	}
	slices.SortFunc(all, func(a, b []int) int {
		if len(a) != len(b) {
			return len(a) - len(b)
		}
		return slices.Compare(a, b)
	})
	return all
}

// without returns the puzzle in which all silent hands come, but for some of them.
func (p puzzle) without(missing []int) puzzle {
	p.s = answered(answered(p.s, api.Comes, quiet(p.s)...), api.Stays, missing...)
	return p
}

// byWhoever tries all lists of silent hands who may not come.
func (p puzzle) byWhoever() (worst int, missing []int, ok bool) {
	worst = -1
	for _, l := range subsets(quiet(p.s), p.silent) {
		tick, _, ok := p.without(l).byMuster()
		if !ok {
			return 0, nil, false
		}
		if tick > worst {
			worst, missing = tick, l
		}
	}
	return worst, missing, true
}

// byWatch tries all hands in all seats of all shifts.
func (p puzzle) byWatch() (found [][]int, ok bool) {
	may := map[[2]int]bool{}
	for i := range p.s.Hands {
		for set := range 1 << len(p.shifts) {
			may[[2]int{i, set}] = mayServe(p.s, i, p.some(set)...)
		}
	}
	n := len(p.seats)
	seatings(len(p.s.Hands), n*len(p.shifts), func(l []int) bool {
		found = nil
		for i := range p.shifts {
			found = append(found, l[i*n:i*n+n])
			if !fill(p.s, p.seats, found[i]) {
				return true
			}
		}
		for i := range p.s.Hands {
			if !may[[2]int{i, shiftsOf(found, i)}] {
				return true
			}
		}
		ok = true
		return false
	})
	if !ok {
		return nil, false
	}
	return found, true
}

func (p puzzle) some(set int) []api.Span {
	var l []api.Span
	for i, x := range p.shifts {
		if set>>i&1 == 1 {
			l = append(l, x)
		}
	}
	return l
}

// shiftsOf returns the set of the shifts in which a hand is.
func shiftsOf(l [][]int, hand int) int {
	set := 0
	for i, who := range l {
		if slices.Contains(who, hand) {
			set |= 1 << i
		}
	}
	return set
}

// byAnswer looks at the pages of one hand up to the tick, as the chapter tells it.
func (x story) byAnswer(hand int) int {
	var kinds []int
	for _, p := range x.pages {
		if p.Hand == hand && p.Tick <= x.tick {
			kinds = append(kinds, p.Kind)
		}
	}
	if len(kinds) == 0 {
		return api.Silent
	}
	last := kinds[len(kinds)-1]
	switch {
	case last == api.Sent || !slices.Contains(kinds, api.Sent):
		return api.Silent
	case last == api.Heard:
		return api.Comes
	default:
		return api.Stays
	}
}

// byAgain looks for a page that was sent in one of the ticks that are not long ago.
func (x story) byAgain() []int {
	var l []int
	for hand := range x.hands {
		sent := false
		for ago := range x.every {
			sent = sent || slices.Contains(x.pages, page(x.tick-ago, hand, api.Sent))
		}
		if x.byAnswer(hand) == api.Silent && !sent {
			l = append(l, hand)
		}
	}
	return l
}

// byCurrent looks for a drill in one of the ticks for which a skill is good.
func (x story) byCurrent() []int {
	l := make([]int, x.hands)
	for hand := range l {
		for skill, good := range x.good {
			for ago := range good {
				if slices.Contains(x.drills, drill(x.tick-ago, hand, skill)) {
					l[hand] |= 1 << skill
				}
			}
		}
	}
	return l
}
