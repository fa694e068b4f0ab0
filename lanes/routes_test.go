package lanes_test

import (
	"slices"
	"testing"

	"coble/api"
)

// TestRoutes is P6.4: the only earliest route among some legs, or none.
func TestRoutes(t *testing.T) {
	for _, x := range []struct {
		name string
		c    api.Chart
		l    []api.Leg
		k    api.Trip
		want []int
	}{
		{"to where it is", sea(), nil, trip(0, 4, 4), []int{4}},
		{"to where it is, in the last tick", sea(), nil, trip(4, 4, 4), []int{4}},
		{"to where it is, over land", sea(), nil, flight(4, 3, 3, 3), []int{3}},
		{"to where it is, on land", sea(), nil, trip(0, 7, 7), nil},
		{"from where a boat is", sea(), []api.Leg{boat(0, 4)}, trip(0, 4, 4), nil},
		{"from where a boat was", sea(), []api.Leg{boat(0, 4)}, trip(1, 4, 4), []int{4}},
		{"from where a tow is", sea(), []api.Leg{tug(0, 4, 5)}, trip(1, 4, 4), nil},
		{"from where a tow was", sea(), []api.Leg{tug(0, 4, 5)}, trip(2, 4, 4), []int{4}},
		{"to the neighbour", sea(), nil, trip(3, 4, 5), []int{4, 5}},
		{"to the neighbour, in the last tick", sea(), nil, trip(4, 4, 5), nil},
		{"after the tide has risen", sea(), nil, trip(0, 5, 6), []int{5, 6}},
		{"after it has waited for the tide", rising(), nil, trip(0, 0, 1), []int{0, 0, 1}},
		{"too late for the tide", sea(), nil, trip(3, 5, 6), nil},
		{"in time for the tide", sea(), nil, trip(2, 5, 6), []int{5, 6}},
		{"from where it does not float yet", sea(), nil, trip(0, 6, 5), nil},
		{"over land", sea(), nil, flight(0, 1, 3, 0), []int{3, 2, 1, 0}},
		{"no time left", sea(), nil, flight(2, 1, 3, 0), nil},
		{"on a narrow way, with nobody", calm(3, 1, 20, 9), nil, trip(1, 0, 2), []int{0, 1, 2}},
		{"on a narrow way, behind a boat", calm(3, 1, 20, 9), []api.Leg{boat(0, 1, 1, 1, 2)}, trip(0, 0, 1), []int{0, 0, 0, 1}},
		{"on a narrow way, behind a tow", calm(3, 1, 20, 9), []api.Leg{tug(0, 1, 1, 1, 2)}, trip(0, 0, 1), []int{0, 0, 0, 0, 1}},
		{"on a narrow way, with a tow behind a boat", calm(3, 1, 20, 9), []api.Leg{boat(0, 1, 1, 1, 2)}, api.Trip{Draught: 20, Tail: true, To: 1}, []int{0, 0, 0, 1}},
		{"on a narrow way, against a boat", calm(3, 1, 20, 9), []api.Leg{boat(0, 2, 1, 0)}, trip(0, 0, 2), nil},
		{"on a narrow way, under an aircraft", calm(3, 1, 20, 9), []api.Leg{plane(0, 1, 2, 1, 0)}, trip(0, 0, 2), []int{0, 1, 2}},
		{"on a narrow way, until a boat has gone", calm(2, 1, 20, 9), []api.Leg{boat(0, 1, 1, 1, 1)}, trip(0, 0, 1), []int{0, 0, 0, 0, 1}},
		{"changing places", calm(2, 1, 20, 9), []api.Leg{boat(0, 1, 0)}, trip(0, 0, 1), nil},
		{"not changing places", calm(2, 1, 20, 9), []api.Leg{boat(0, 1)}, trip(0, 0, 1), []int{0, 1}},
		{"the tow is in the way of who comes", calm(2, 1, 20, 2), []api.Leg{boat(1, 0)}, api.Trip{Draught: 20, Tail: true, To: 1}, nil},
		{"nothing is in the way of who comes", calm(2, 1, 20, 2), []api.Leg{boat(1, 0)}, trip(0, 0, 1), []int{0, 1}},
		{"the tow goes away", calm(2, 1, 20, 3), []api.Leg{boat(2, 0)}, api.Trip{Draught: 20, Tail: true, To: 1}, []int{0, 1}},
		{"somebody comes who need not be waited for", calm(2, 1, 20, 9), []api.Leg{boat(2, 1, 1)}, trip(0, 0, 1), []int{0, 1}},
		{"the end is free before the start", calm(2, 1, 20, 9), []api.Leg{boat(1, 1, 1, 1)}, trip(0, 0, 1), []int{0, 0, 0, 0, 1}},
	} {
		if l := tryRoute(t, x.c, x.l, x.k); !slices.Equal(l, x.want) {
			t.Errorf("%s: Route = %v, not %v", x.name, l, x.want)
		}
		if l, ok := tryBlock(t, x.c, x.l, x.k); ok != (x.want == nil) {
			t.Errorf("%s: Block = %v, %v", x.name, l, ok)
		}
	}
}

// rising is water of which the second cell is deep enough when the tide has surely risen.
func rising() api.Chart {
	c := calm(2, 1, 20, 3)
	c.Depth[1], c.Tide[1], c.Tide[2] = 10, span(9, 12), span(10, 12)
	return c
}

// TestAnyRoute is P6.4: the legs may clash with one another.
func TestAnyRoute(t *testing.T) {
	l := []api.Leg{boat(1, 5, 5, 5), boat(1, 5, 5, 5), boat(0, 5, 5)}
	if cells := tryRoute(t, sea(), l, trip(0, 4, 6)); !slices.Equal(cells, []int{4, 9, 10, 6}) {
		t.Errorf("Route = %v", cells)
	}
	if blocks, ok := tryBlock(t, sea(), append(l, boat(3, 6), boat(3, 6)), trip(0, 4, 6)); !ok || !slices.Equal(blocks, []int{2, 4}) {
		t.Errorf("Block = %v, %v", blocks, ok)
	}
}

// TestBlocks is P6.5: legs are taken away in order, as long as no route opens.
func TestBlocks(t *testing.T) {
	narrow, wait := calm(3, 1, 20, 4), boat(0, 2, 2, 2, 2)
	for _, x := range []struct {
		name string
		l    []api.Leg
		k    api.Trip
		want []int
	}{
		{"no legs", nil, trip(3, 0, 2), nil},
		{"none is needed", []api.Leg{wait, wait, plane(0, 1, 0)}, trip(3, 0, 2), nil},
		{"one", []api.Leg{wait}, trip(0, 0, 2), []int{0}},
		{"the last one of two that are equal", []api.Leg{wait, wait}, trip(0, 0, 2), []int{1}},
		{"the last one of three that suffice alone", []api.Leg{boat(0, 1, 1, 1, 1), wait, boat(0, 0)}, trip(0, 0, 2), []int{2}},
		{"one of another level is not", []api.Leg{wait, plane(0, 1, 2, 2, 2, 2)}, trip(0, 0, 2), []int{0}},
		{"two together", []api.Leg{boat(2, 2), boat(3, 2)}, trip(0, 0, 2), []int{0, 1}},
		{"two together, or one", []api.Leg{boat(2, 2), boat(3, 2), wait}, trip(0, 0, 2), []int{2}},
		{"one, or two together", []api.Leg{wait, boat(2, 2), boat(3, 2)}, trip(0, 0, 2), []int{1, 2}},
		{"two of four", []api.Leg{boat(2, 2), boat(2, 2, 2), boat(3, 2), boat(1, 2, 2)}, trip(0, 0, 2), []int{2, 3}},
		{"who comes against it", []api.Leg{boat(0, 2, 1, 0), boat(0, 1, 1)}, trip(0, 0, 2), []int{0}},
		{"in the air", []api.Leg{plane(0, 1, 2, 2, 2, 2), plane(0, 2, 2, 2, 2, 2), plane(0, 3, 2, 2, 2, 2)}, flight(0, 2, 0, 2), []int{1}},
	} {
		if l, ok := tryBlock(t, narrow, x.l, x.k); !ok || !slices.Equal(l, x.want) {
			t.Errorf("%s: Block = %v, %v, not %v", x.name, l, ok, x.want)
		}
	}
}

// TestRoutesOneByOne is P6.4 and P6.5 on many seas: all routes are gone through, one by one.
func TestRoutesOneByOne(t *testing.T) {
	found, late, blocked, together, dry := 0, 0, 0, 0, 0
	for _, p := range puzzles(6, 4000, 3, 2, 6, 9) {
		k, all := p.trips[0], ways(p.c, p.l, p.trips[0])
		want := earliest(all, 1<<len(p.l)-1)
		cells := tryRoute(t, p.c, p.l, k)
		if len(cells) != len(want) || len(want) > 0 && !isRoute(p.c, p.l, k, cells) {
			t.Fatalf("Route(%v, %v, %v) = %v, not %v", p.c, p.l, k, cells, want)
		}
		l, ok := tryBlock(t, p.c, p.l, k)
		if ok == (len(want) > 0) || ok && !slices.Equal(l, blocks(all, len(p.l))) {
			t.Fatalf("Block(%v, %v, %v) = %v, %v", p.c, p.l, k, l, ok)
		}
		switch {
		case len(want) > 0:
			found++
			if len(want) > len(earliest(all, 0)) {
				late++
			}
		case len(all) > 0:
			blocked++
			if len(l) > 1 {
				together++
			}
		default:
			dry++
		}
	}
	if found < 500 || late < 50 || blocked < 200 || together < 10 || dry < 100 {
		t.Errorf("the seas are too much alike: %d routes, %d of them late, %d blocked, %d of them by several, %d without legs", found, late, blocked, together, dry)
	}
}

// isRoute reports whether cells are a route of a trip that clashes with no leg.
func isRoute(c api.Chart, l []api.Leg, k api.Trip, cells []int) bool {
	leg := legOf(k, cells)
	return isLeg(c, leg) && cells[0] == k.From && cells[len(cells)-1] == k.To && clashesWith(c, l, leg) == 0
}

// TestPlans is P6.6: the trips get out of the way of those before them, not of those after them.
func TestPlans(t *testing.T) {
	narrow := calm(3, 1, 20, 6)
	for _, x := range []struct {
		name  string
		c     api.Chart
		l     []api.Leg
		trips []api.Trip
		want  []int
	}{
		{"none", narrow, []api.Leg{boat(0, 1)}, nil, nil},
		{"one that stays", narrow, nil, []api.Trip{trip(5, 1, 1)}, []int{5}},
		{"one behind the other", narrow, nil, []api.Trip{trip(0, 1, 2), trip(0, 0, 1)}, []int{1, 1}},
		{"one that waits", narrow, nil, []api.Trip{trip(1, 1, 2), trip(0, 0, 1)}, []int{2, 2}},
		{"one against the other", narrow, nil, []api.Trip{trip(0, 0, 2), trip(0, 2, 0)}, []int{2, -1}},
		{"the other way round", narrow, nil, []api.Trip{trip(0, 2, 0), trip(0, 0, 2)}, []int{2, -1}},
		{"one that is not planned is in nobody's way", narrow, []api.Leg{boat(0, 0, 1, 2)}, []api.Trip{trip(0, 2, 0), trip(3, 2, 1), trip(0, 2, 2)}, []int{-1, 4, 0}},
		{"at other levels", narrow, nil, []api.Trip{trip(0, 0, 2), flight(0, 1, 0, 2), flight(0, 2, 2, 0), flight(0, 3, 2, 0)}, []int{2, 2, 2, 2}},
		{"over one that has ended", narrow, nil, []api.Trip{trip(0, 1, 1), trip(1, 0, 2)}, []int{0, 3}},
		{"into a tow", narrow, nil, []api.Trip{{Draught: 20, Tail: true, From: 1, To: 2}, trip(0, 0, 1)}, []int{1, 2}},
		{"behind a tow", narrow, nil, []api.Trip{{Draught: 20, Tail: true, From: 1, To: 2}, {Draught: 20, Tail: true, From: 0, To: 1}}, []int{1, 2}},
		{"a tow that is in the way", calm(3, 1, 20, 4), []api.Leg{boat(2, 1, 1)}, []api.Trip{{Draught: 20, Tail: true, From: 0, To: 2}, trip(0, 0, 2)}, []int{-1, 2}},
		{"twice the same", narrow, nil, []api.Trip{trip(0, 0, 2), trip(0, 0, 2), trip(1, 0, 2)}, []int{2, -1, 3}},
	} {
		if l := mustPlan(t, x.c, x.l, x.trips); !slices.Equal(l, x.want) {
			t.Errorf("%s: Plan = %v, not %v", x.name, l, x.want)
		}
	}
}

// TestFirstOfThose is P6.6: of the earliest routes of a trip the first one becomes a leg, which is that with the lower
// cell at the last place at which they differ. Where it goes nobody else can stay.
func TestFirstOfThose(t *testing.T) {
	for _, x := range []struct {
		k     api.Trip
		l     []api.Leg
		first []int
		other [][]int
	}{
		{trip(0, 1, 9), nil, []int{1, 4, 9}, [][]int{{1, 5, 9}}},
		{trip(0, 10, 6), []api.Leg{boat(1, 6)}, []int{10, 5, 6}, [][]int{{10, 10, 6}, {10, 11, 6}}},
		{trip(0, 0, 9), []api.Leg{boat(2, 9)}, []int{0, 0, 4, 9}, [][]int{{0, 1, 4, 9}, {0, 4, 4, 9}, {0, 4, 8, 9}, {0, 4, 5, 9}, {0, 1, 5, 9}}},
		// By the first place at which they differ the route by 1 and 5 would be before that by 6 and 3.
		{trip(0, 5, 2), []api.Leg{boat(1, 2, 2), boat(2, 1)}, []int{5, 6, 3, 2}, [][]int{{5, 1, 5, 2}, {5, 5, 5, 2}, {5, 5, 6, 2}}},
		{flight(2, 2, 5, 2), []api.Leg{plane(3, 2, 2, 2), plane(4, 2, 1)}, []int{5, 6, 3, 2}, [][]int{{5, 1, 5, 2}}},
	} {
		c := calm(4, 3, 20, 6)
		if l := tryRoute(t, c, x.l, x.k); len(l) != len(x.first) {
			t.Fatalf("Route of %v = %v", x.k, l)
		}
		for _, cells := range append(x.other, x.first) {
			if !isRoute(c, x.l, x.k, cells) {
				t.Fatalf("%v is no route of %v", cells, x.k)
			}
			for i, cell := range cells {
				stays := x.k
				stays.At, stays.From, stays.To = x.k.At+i, cell, cell
				want := stays.At
				if x.first[i] == cell {
					want = -1
				}
				if l := mustPlan(t, c, x.l, []api.Trip{x.k, stays}); l[1] != want {
					t.Errorf("Plan of %v, and of %v = %v", x.k, stays, l)
				}
			}
		}
	}
}

// TestPlansOneByOne is P6.6 on many seas: all routes of each trip are gone through, one by one.
func TestPlansOneByOne(t *testing.T) {
	all, none, mattered := 0, 0, 0
	for _, p := range puzzles(7, 1500, 3, 3, 5, 4) {
		_, want := p.plan()
		if l := mustPlan(t, p.c, p.l, p.trips); !slices.Equal(l, want) {
			t.Fatalf("Plan(%v, %v, %v) = %v, not %v", p.c, p.l, p.trips, l, want)
		}
		if !slices.Contains(want, -1) {
			all++
		}
		for i, k := range p.trips {
			alone := earliest(ways(p.c, p.l, k), 1<<len(p.l)-1)
			if want[i] < 0 {
				none++
			}
			if len(alone) > 0 && want[i] != k.At+len(alone)-1 {
				mattered++
			}
		}
	}
	if all < 200 || none < 500 || mattered < 100 {
		t.Errorf("the seas are too much alike: %d are planned, %d trips are not, %d get out of the way of others", all, none, mattered)
	}
}

// TestPlanNumbers is P6.6: at most six trips, and at most 12 legs and trips.
func TestPlanNumbers(t *testing.T) {
	c := calm(6, 2, 20, 2)
	for n := range 13 {
		for m := range 7 {
			var l []api.Leg
			var trips []api.Trip
			for i := range n {
				l = append(l, plane(0, 1, i%12))
			}
			for i := range m {
				trips = append(trips, trip(1, i, i))
			}
			if n+m > 12 {
				continue
			}
			if ends := mustPlan(t, c, l, trips); !slices.Equal(ends, slices.Repeat([]int{1}, m)) {
				t.Errorf("Plan of %d trips among %d legs = %v", m, n, ends)
			}
		}
	}
}
