package lanes_test

import (
	"slices"
	"testing"
	"time"

	"coble/api"
	"coble/chart"
)

// without returns the legs but for one of them.
func without(l []api.Leg, i int) []api.Leg { return slices.Delete(slices.Clone(l), i, i+1) }

// TestRouteAmongLegs is P6.7: a route that is added to the legs clashes with none of them.
func TestRouteAmongLegs(t *testing.T) {
	found, tows := 0, 0
	for _, p := range puzzles(8, 400, 6, 6, 20, 11) {
		for _, k := range p.trips {
			cells := tryRoute(t, p.c, p.l, k)
			if len(cells) == 0 {
				continue
			}
			found++
			if k.Tail && len(p.l) > 5 {
				tows++
			}
			if !isRoute(p.c, p.l, k, cells) {
				t.Fatalf("Route(%v, %v, %v) = %v", p.c, p.l, k, cells)
			}
			for _, x := range mustClashes(t, p.c, append(slices.Clone(p.l), legOf(k, cells))) {
				if x[1] == len(p.l) {
					t.Fatalf("Route(%v, %v, %v) = %v, which clashes: %v", p.c, p.l, k, cells, x)
				}
			}
		}
	}
	if found < 200 || tows < 20 {
		t.Errorf("only %d routes, %d of them with a tow", found, tows)
	}
}

// TestPlannedAmongLegs is P6.7: trips that are planned one after the other, as Plan says that they end, clash neither with
// one another nor with legs that do not clash.
func TestPlannedAmongLegs(t *testing.T) {
	several := 0
	for _, p := range puzzles(9, 600, 3, 2, 5, 4) {
		for len(p.clashes()) > 0 {
			p.l = without(p.l, p.clashes()[0][0])
		}
		all, ends := p.plan()
		if l := mustPlan(t, p.c, p.l, p.trips); !slices.Equal(l, ends) {
			t.Fatalf("Plan(%v, %v, %v) = %v, not %v", p.c, p.l, p.trips, l, ends)
		}
		if l := mustClashes(t, p.c, all); len(l) > 0 {
			t.Fatalf("Plan(%v, %v, %v) = %v, where legs clash: %v", p.c, p.l, p.trips, ends, l)
		}
		if len(all) > len(p.l)+1 && len(p.l) > 0 {
			several++
		}
	}
	if several < 100 {
		t.Errorf("only %d times several trips", several)
	}
}

// TestNoEarlierRoute is P6.8: without a leg a route does not end later, with a tow it does not end earlier.
func TestNoEarlierRoute(t *testing.T) {
	sooner, slower := 0, 0
	for _, p := range puzzles(10, 400, 4, 3, 12, 11) {
		for _, k := range p.trips {
			cells := tryRoute(t, p.c, p.l, k)
			for i := range p.l {
				less := tryRoute(t, p.c, without(p.l, i), k)
				if later(less, cells) {
					t.Fatalf("Route(%v, %v, %v) = %v, and without %d %v", p.c, p.l, k, cells, i, less)
				}
				if later(cells, less) {
					sooner++
				}
			}
			light, heavy := k, k
			light.Tail, heavy.Tail = false, true
			a, b := tryRoute(t, p.c, p.l, light), tryRoute(t, p.c, p.l, heavy)
			if later(a, b) {
				t.Fatalf("Route(%v, %v, %v) = %v, and with a tow %v", p.c, p.l, light, a, b)
			}
			if later(b, a) {
				slower++
			}
		}
	}
	if sooner < 100 || slower < 10 {
		t.Errorf("%d routes end sooner without a leg, %d later with a tow", sooner, slower)
	}
}

// later reports whether a route ends later than another one; no route ends after all others.
func later(a, b []int) bool { return len(b) > 0 && (len(a) == 0 || len(a) > len(b)) }

// TestAlone is P6.4: without legs a boat is as soon as chart says, and an aircraft goes straight.
func TestAlone(t *testing.T) {
	boats, aircraft := 0, 0
	for _, p := range puzzles(11, 500, 7, 7, 20, 0) {
		for _, k := range p.trips {
			cells := tryRoute(t, p.c, nil, k)
			want := -1
			if k.Level == 0 {
				first, _ := chart.Arrive(p.c, k.Draught, k.From, k.At)
				want = first[k.To]
				boats++
			} else if n, _ := chart.Apart(p.c, k.From, k.To); k.At+n < len(p.c.Tide) {
				want = k.At + n
				aircraft++
			}
			if end := k.At + len(cells) - 1; len(cells) > 0 && end != want || len(cells) == 0 && want >= 0 {
				t.Fatalf("Route(%v, %v) = %v, but it can end in %d", p.c, k, cells, want)
			}
			if l := mustPlan(t, p.c, nil, []api.Trip{k}); l[0] != want {
				t.Fatalf("Plan(%v, %v) = %v, but it can end in %d", p.c, k, l, want)
			}
		}
	}
	if boats < 300 || aircraft < 300 {
		t.Errorf("%d boats and %d aircraft", boats, aircraft)
	}
}

// TestInTheWay is P6.9: there is no route among the legs of Block, and one without any of them.
func TestInTheWay(t *testing.T) {
	some, several := 0, 0
	for _, p := range puzzles(12, 1500, 4, 2, 9, 12) {
		for _, k := range p.trips {
			l, ok := tryBlock(t, p.c, p.l, k)
			if ok == (len(tryRoute(t, p.c, p.l, k)) > 0) {
				t.Fatalf("Block(%v, %v, %v) = %v, %v", p.c, p.l, k, l, ok)
			}
			var left []api.Leg
			for i, n := range l {
				if n < 0 || n >= len(p.l) || i > 0 && n <= l[i-1] {
					t.Fatalf("Block(%v, %v, %v) = %v", p.c, p.l, k, l)
				}
				left = append(left, p.l[n])
			}
			if ok && len(tryRoute(t, p.c, left, k)) > 0 {
				t.Fatalf("Block(%v, %v, %v) = %v, which leave a route", p.c, p.l, k, l)
			}
			for i := range left {
				if len(tryRoute(t, p.c, without(left, i), k)) == 0 {
					t.Fatalf("Block(%v, %v, %v) = %v, of which %d is not needed", p.c, p.l, k, l, l[i])
				}
			}
			if len(l) > 0 {
				some++
			}
			if len(l) > 1 {
				several++
			}
		}
	}
	if some < 300 || several < 20 {
		t.Errorf("%d times legs are in the way, %d times several", some, several)
	}
}

// TestOneAfterTheOther is P6.6: what is planned does not depend on the trips after it, and one trip ends like its route.
func TestOneAfterTheOther(t *testing.T) {
	for _, p := range puzzles(13, 300, 6, 6, 20, 8) {
		all := mustPlan(t, p.c, p.l, p.trips)
		for n := range all {
			if l := mustPlan(t, p.c, p.l, p.trips[:n]); !slices.Equal(l, all[:n]) {
				t.Fatalf("Plan(%v, %v, %v) = %v, but of the first %d %v", p.c, p.l, p.trips, all, n, l)
			}
		}
		end := -1
		if cells := tryRoute(t, p.c, p.l, p.trips[0]); len(cells) > 0 {
			end = p.trips[0].At + len(cells) - 1
		}
		if all[0] != end {
			t.Fatalf("Plan(%v, %v, %v) = %v, but the first one ends in %d", p.c, p.l, p.trips, all, end)
		}
	}
}

// TestLargest: on the largest chart, with as many legs as there may be, a call takes no noticeable time.
func TestLargest(t *testing.T) {
	c := calm(12, 12, 100, 60)
	for _, level := range []int{0, 3} {
		var l []api.Leg
		for i := range 12 {
			leg := api.Leg{Level: level, Tail: true, Cells: slices.Repeat([]int{143 - i}, 60)}
			if level == 0 {
				leg.Draught = 100
			}
			l = append(l, leg)
		}
		k := api.Trip{Level: level, Draught: l[0].Draught, Tail: true, From: 0, To: 143}
		start := time.Now()
		if two := mustClashes(t, c, l); len(two) > 0 {
			t.Errorf("Clashes = %v", two)
		}
		if cells := tryRoute(t, c, l, k); len(cells) > 0 {
			t.Errorf("Route = %v", cells)
		}
		if blocks, ok := tryBlock(t, c, l, k); !ok || !slices.Equal(blocks, []int{0}) {
			t.Errorf("Block = %v, %v", blocks, ok)
		}
		k.To = 131
		if ends := mustPlan(t, c, l[6:], slices.Repeat([]api.Trip{k}, 6)); ends[0] != 16 || slices.Max(ends[1:]) >= 0 {
			t.Errorf("Plan = %v", ends)
		}
		if d := time.Since(start); d > 3*time.Second {
			t.Errorf("the calls take %v at the level %d", d, level)
		} else {
			t.Logf("the calls take %v at the level %d", d, level)
		}
	}
}
