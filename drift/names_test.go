package drift_test

import (
	"math"
	"math/rand/v2"
	"slices"
	"testing"

	"coble/api"
	"coble/drift"
)

// resting is a drift in which nothing moves, and a drifter in one of its cells.
func resting() (api.Drift, api.Drifter) {
	d := still(4, 1, 5, 3)
	return d, api.Drifter{Cells: []int{0, 1, 2}}
}

func seen(tick int, cells ...int) api.Sighting {
	return api.Sighting{Tick: tick, Cells: cells, Seen: true}
}
func none(tick int, cells ...int) api.Sighting { return api.Sighting{Tick: tick, Cells: cells} }

// TestConflict is P2.6: of several sets that contradict each other the one that is left when the first ones go first.
func TestConflict(t *testing.T) {
	d, x := resting()
	for i, c := range []struct {
		seen []api.Sighting
		want []int
	}{
		{[]api.Sighting{seen(0)}, []int{0}},
		{[]api.Sighting{seen(0, 3)}, []int{0}},
		{[]api.Sighting{none(0, 0, 1, 2)}, []int{0}},
		{[]api.Sighting{none(0, 0), none(1, 1), none(2, 2)}, []int{0, 1, 2}},
		{[]api.Sighting{none(2, 0), none(0, 3), none(1, 1), none(2, 2)}, []int{0, 2, 3}},
		{[]api.Sighting{seen(0, 0), seen(1, 1), seen(2, 2)}, []int{1, 2}},
		{[]api.Sighting{seen(2, 0), seen(1, 1), seen(0, 0)}, []int{1, 2}},
		{[]api.Sighting{seen(0, 0), seen(0, 1), seen(0, 0), seen(0, 0, 1)}, []int{1, 2}},
		{[]api.Sighting{seen(0, 3), seen(0, 1), none(0, 1)}, []int{1, 2}},
		{[]api.Sighting{seen(0, 1), none(0, 1), seen(0, 3)}, []int{2}},
		{[]api.Sighting{seen(1, 0), none(0, 0), seen(2, 3), none(1, 0)}, []int{2}},
		{[]api.Sighting{seen(0), seen(0)}, []int{1}},
	} {
		if l, e := drift.Conflict(d, x, c.seen); e != api.OK || !slices.Equal(l, c.want) {
			t.Errorf("%d: Conflict = %v, %d", i, l, e)
		}
	}
	for i, seen := range [][]api.Sighting{nil, {}, {seen(0, 0)}, {none(0, 0), none(1, 1)}, {none(0, 3), none(1)}} {
		if l, e := drift.Conflict(d, x, seen); e != api.ErrNone || len(l) > 0 {
			t.Errorf("%d: Conflict of what can be = %v, %d", i, l, e)
		}
	}
}

// TestConflictOfAll: twelve sightings, of which all are needed, or just the last one, or the last two.
func TestConflictOfAll(t *testing.T) {
	d := still(12, 1, 5, 12)
	x := api.Drifter{Cells: cells(d.Chart)}
	var l []api.Sighting
	for i := range 12 {
		l = append(l, none(i, i))
	}
	if got, e := drift.Conflict(d, x, l); e != api.OK || !slices.Equal(got, cells(d.Chart)) {
		t.Errorf("Conflict = %v, %d", got, e)
	}
	if got, e := drift.Struck(d, x, l[:11], 11, 3); e != api.ErrNone || len(got) > 0 {
		t.Errorf("Struck of what is left = %v, %d", got, e)
	}
	l[11] = seen(11)
	if got, e := drift.Conflict(d, x, l); e != api.OK || !slices.Equal(got, []int{11}) {
		t.Errorf("Conflict with nothing = %v, %d", got, e)
	}
	l[11] = seen(11, 10)
	if got, e := drift.Conflict(d, x, l); e != api.OK || !slices.Equal(got, []int{10, 11}) {
		t.Errorf("Conflict of the last two = %v, %d", got, e)
	}
}

// TestStruck is P2.7.
func TestStruck(t *testing.T) {
	d, x := resting()
	for i, c := range []struct {
		seen       []api.Sighting
		cell, tick int
		want       []int
	}{
		{nil, 3, 1, nil},
		{nil, -1, 2, nil},
		{[]api.Sighting{none(0, 3), seen(0, 0)}, 3, 0, nil},
		{[]api.Sighting{none(0, 1)}, 1, 2, []int{0}},
		{[]api.Sighting{none(0, 1), seen(2, 0)}, 1, 1, []int{1}},
		{[]api.Sighting{seen(2, 0), none(0, 1)}, 1, 1, []int{1}},
		{[]api.Sighting{seen(2, 0, 1), none(0, 1), none(1, 2)}, 1, 1, []int{1}},
		{[]api.Sighting{none(0, 0), none(0, 1), none(0, 2)}, 1, 0, []int{1}},
		{[]api.Sighting{none(0, 0), none(0, 1), none(0, 2)}, 3, 0, nil},
	} {
		if l, e := drift.Struck(d, x, c.seen, c.cell, c.tick); e != api.OK || !slices.Equal(l, c.want) {
			t.Errorf("%d: Struck = %v, %d", i, l, e)
		}
	}
	for i, seen := range [][]api.Sighting{nil, {seen(0, 1)}, {none(0, 0), seen(2, 1, 2)}} {
		if l, e := drift.Struck(d, x, seen, 1, 1); e != api.ErrNone || len(l) > 0 {
			t.Errorf("%d: Struck of what can be = %v, %d", i, l, e)
		}
	}
}

// TestStruckOnTheWay: what is ruled out by where it would have come from, or would have gone to.
func TestStruckOnTheWay(t *testing.T) {
	d, x := sea(), drifter()
	if l, e := drift.Struck(d, x, sightings(), -1, 1); e != api.OK || !slices.Equal(l, []int{1}) {
		t.Errorf("Struck of the outside = %v, %d", l, e)
	}
	if l, e := drift.Struck(d, x, sightings(), 5, 2); e != api.OK || !slices.Equal(l, []int{1}) {
		t.Errorf("Struck of 5 in 2 = %v, %d", l, e)
	}
	if l, e := drift.Struck(d, x, sightings()[:1], 4, 4); e != api.OK || !slices.Equal(l, []int{0}) {
		t.Errorf("Struck of 4 in 4 = %v, %d", l, e)
	}
}

func TestStruckInvalid(t *testing.T) {
	for _, seen := range [][]api.Sighting{nil, sightings(), never()} {
		for _, c := range [][2]int{{-2, 1}, {12, 1}, {4, 5}, {4, -1}, {-1, -1}, {math.MinInt, 0}, {0, math.MaxInt}} {
			if l, e := drift.Struck(sea(), drifter(), seen, c[0], c[1]); e != api.ErrArg || len(l) > 0 {
				t.Errorf("Struck of %v = %v, %d", c, l, e)
			}
		}
	}
	late := api.Drifter{At: 2, Cells: []int{5}}
	if l, e := drift.Struck(sea(), late, nil, 4, 1); e != api.ErrArg || len(l) > 0 {
		t.Errorf("Struck before At = %v, %d", l, e)
	}
	if l, e := drift.Struck(sea(), late, nil, 4, 2); e != api.OK || len(l) > 0 {
		t.Errorf("Struck of where it was not = %v, %d", l, e)
	}
}

// TestBlameOneByOne holds Conflict and Struck against all histories of small drifts (P2.6, P2.7).
func TestBlameOneByOne(t *testing.T) {
	found := map[int]int{}
	r := rand.New(rand.NewPCG(5, 5))
	for i, p := range puzzles(5, 2000, 3, 3, 4) {
		if i%2 == 0 {
			p = vague(r, p)
		}
		all := histories(p.d, p.x)
		got, e := drift.Conflict(p.d, p.x, p.seen)
		holdBlame(t, p, all, got, e)
		for tick := p.x.At; tick < len(p.d.Chart.Tide); tick++ {
			for cell := -1; cell < len(p.d.Chart.Depth); cell++ {
				got, e := drift.Struck(p.d, p.x, p.seen, cell, tick)
				holdBlame(t, p, thereIn(all, p.x, cell, tick), got, e)
				found[len(got)]++
			}
		}
	}
	if found[1] < 1000 || found[2] < 100 || found[3] < 20 {
		t.Errorf("how many sightings were named: %v", found)
	}
}

func holdBlame(t *testing.T, p puzzle, l []history, got []int, e api.Errno) {
	t.Helper()
	if len(possible(l, p.x, p.seen)) > 0 {
		if e != api.ErrNone || len(got) > 0 {
			t.Fatalf("%v: %v, %d", p, got, e)
		}
		return
	}
	if want := blamed(l, p.x, p.seen); e != api.OK || !slices.Equal(got, want) {
		t.Fatalf("%v: %v, %d, want %v", p, got, e, want)
	}
}
