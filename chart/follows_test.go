package chart_test

import (
	"testing"

	"coble/api"
	"coble/chart"
)

// seas returns charts that are too large for all their passages to be tried.
func seas() []api.Chart {
	return append(lots(9, 12, 6, 6, 9), sea())
}

// narrower returns a chart whose spans of the tide have lost a height at one end or the other.
func narrower(c api.Chart) api.Chart {
	c = copied(c)
	for i := range c.Tide {
		switch s := &c.Tide[i]; {
		case s.Low == s.High:
		case i%2 == 0:
			s.Low++
		default:
			s.High--
		}
	}
	return c
}

// TestWhateverTheTideIs is P1.12 of passages.
func TestWhateverTheTideIs(t *testing.T) {
	for _, c := range seas() {
		for from := range c.Depth {
			for to := range c.Depth {
				l, e := chart.Passage(c, 6, from, 0, to)
				if e == api.OK && (!isPassage(c, 6, 0, l) || l[0] != from || l[len(l)-1] != to) {
					t.Fatalf("Passage(%v, 6, %d, 0, %d) = %v", c, from, to, l)
				}
			}
			for until := range c.Tide {
				moves := mustMoves(t, c, 6, from, 0, until)
				keeps(t, moves, mustMoves(t, c, 5, from, 0, until), "a lesser draught")
				keeps(t, moves, mustMoves(t, narrower(c), 6, from, 0, until), "narrower tides")
			}
			keeps(t, mustArrive(t, c, 6, from, 0), mustArrive(t, c, 5, from, 0), "a lesser draught")
			keeps(t, mustArrive(t, c, 6, from, 0), mustArrive(t, narrower(c), 6, from, 0), "narrower tides")
		}
	}
}

// keeps: whatever there is (not -1) is there with no greater number too.
func keeps(t *testing.T, old, now []int, with string) {
	t.Helper()
	for i := range old {
		if old[i] >= 0 && (now[i] < 0 || now[i] > old[i]) {
			t.Fatalf("%v, but with %s %v", old, with, now)
		}
	}
}

// TestNarrowerWindows is P1.12 of ramps.
func TestNarrowerWindows(t *testing.T) {
	someRamps(func(c api.Chart, r api.Ramp) {
		wideSure, wideMay := mustWindows(t, c, r)
		sure, may := mustWindows(t, narrower(c), r)
		if !allIn(ticksOf(t, c, wideSure), ticksOf(t, c, sure)) || !allIn(ticksOf(t, c, may), ticksOf(t, c, wideMay)) {
			t.Fatalf("Windows(%v, %v) = %v, %v; with narrower tides %v, %v", c, r, wideSure, wideMay, sure, may)
		}
	})
}

// TestNoBoatIsSooner is P1.13.
func TestNoBoatIsSooner(t *testing.T) {
	for _, c := range seas() {
		for from := range c.Depth {
			for tick := range c.Tide {
				noSooner(t, c, from, tick)
			}
		}
	}
}

func noSooner(t *testing.T, c api.Chart, from, tick int) {
	t.Helper()
	arrive := mustArrive(t, c, 6, from, tick)
	for until := tick; until < len(c.Tide); until++ {
		for to, n := range mustMoves(t, c, 6, from, tick, until) {
			if n > until-tick || n >= 0 && (arrive[to] < 0 || until < arrive[to]) {
				t.Fatalf("Moves(%v, 6, %d, %d, %d) to %d: %d, Arrive %d", c, from, tick, until, to, n, arrive[to])
			}
			if n >= 0 && until-tick < mustApart(t, c, from, to) {
				t.Fatalf("Moves(%v, 6, %d, %d, %d) to %d: %d, farther apart", c, from, tick, until, to, n)
			}
			if until == arrive[to] && n < 0 {
				t.Fatalf("Moves(%v, 6, %d, %d, %d) to %d: none, but Arrive", c, from, tick, until, to)
			}
		}
	}
}

// TestBackInTimeFollows is P1.14: Depart, Moves and Arrive say the same of all passages.
func TestBackInTimeFollows(t *testing.T) {
	for _, c := range lots(10, 12, 4, 4, 7) {
		for to := range c.Depth {
			for end := range c.Tide {
				backInTime(t, c, to, end)
			}
		}
	}
}

func backInTime(t *testing.T, c api.Chart, to, end int) {
	t.Helper()
	depart := mustDepart(t, c, 6, to, end)
	for from, leave := range depart {
		for tick := 0; tick <= end; tick++ {
			leads := mustMoves(t, c, 6, from, tick, end)[to] >= 0
			if leads && tick > leave || !leads && tick == leave {
				t.Fatalf("Depart(%v, 6, %d, %d) from %d: %d, but Moves from %d", c, to, end, from, leave, tick)
			}
			if first := mustArrive(t, c, 6, from, tick)[to]; leads && (first < 0 || first > end) {
				t.Fatalf("Arrive(%v, 6, %d, %d) at %d: %d, but Moves until %d", c, from, tick, to, first, end)
			}
		}
	}
}
