package sweep

import "coble/api"

// left is what is left of each particle while nothing is detected: its weight times its miss, counted in parts that are so
// small that it is a whole number, and that all of them together are an int.
type left [api.MaxParticles]int

// parts returns into how many parts a weight is divided: each look leaves some percent of it.
func (s search) parts() int {
	n := 1
	for range s.looks() {
		n *= 100
	}
	return n
}

// atFirst returns what is left before the search.
func (s search) atFirst() left {
	var l left
	for i, p := range s.particles {
		l[i] = p.Weight * s.parts()
	}
	return l
}

func (l left) sum() int {
	sum := 0
	for _, n := range l {
		sum += n
	}
	return sum
}

// after returns what is left after the first ticks of a plan.
func (s search) after(plan [][]int, ticks int) left {
	l := s.atFirst()
	for tick := range ticks {
		for i, p := range s.particles {
			l[i] = s.unseen(l[i], fleetOf(plan, tick), p.Cells[tick])
		}
	}
	return l
}

// unseen returns what the units leave of so many parts that are in a cell.
func (s search) unseen(parts int, f fleet, cell int) int {
	for i, u := range s.Units {
		if f[i] == cell {
			parts = parts / 100 * (100 - u.Chance)
		}
	}
	return parts
}

// percent returns so many percent of what there is before the search; as a unit looks at least once, it is a whole number.
func (s search) percent(n int) int { return s.atFirst().sum() / 100 * n }

// chance returns the chance with which the target is detected, by what is left.
func (s search) chance(l left) api.Share {
	all := s.atFirst().sum()
	return share(all-l.sum(), all)
}

// reason returns why a rule ends a search after so many ticks; 0, if it does not.
func (s search) reason(r api.Rule, plan [][]int, ticks int) int {
	found := s.percent(100) - s.after(plan, ticks).sum()
	switch {
	case found >= s.percent(r.Percent):
		return byChance
	case ticks >= r.Hope:
		return byHope
	}
	return 0
}

// The reasons for which a rule ends a search.
const (
	byChance = 1
	byHope   = 2
)

// share returns a fraction in lowest terms.
func share(over, under int) api.Share {
	a, b := over, under
	for b != 0 {
		a, b = b, a%b
	}
	return api.Share{Over: over / a, Under: under / a}
}
