package drift_test

import (
	"math"
	"slices"
	"testing"

	"coble/api"
	"coble/drift"
)

// TestPlaces is P2.3: all ticks from At on, without those places from which no later sighting can be met.
func TestPlaces(t *testing.T) {
	d := still(6, 1, 5, 4)
	for tick := range 3 {
		d.Currents[0][tick] = api.Push{Dirs: 1, Steps: span(0, 1)}
	}
	x := api.Drifter{Cells: []int{0, 3}}
	for i, c := range []struct {
		x    api.Drifter
		seen []api.Sighting
		want [][]int
	}{
		{x, nil, [][]int{{0, 3}, {0, 1, 3, 4}, {0, 1, 2, 3, 4, 5}, {-1, 0, 1, 2, 3, 4, 5}}},
		{api.Drifter{At: 2, Cells: []int{5}}, nil, [][]int{{5}, {-1, 5}}},
		{api.Drifter{At: 3, Cells: []int{0, 2, 5}}, nil, [][]int{{0, 2, 5}}},
		{api.Drifter{At: 3, Cells: []int{0, 2, 5}}, []api.Sighting{{Tick: 3, Cells: []int{2}}}, [][]int{{0, 5}}},
		{x, []api.Sighting{{Cells: []int{0}}}, [][]int{{3}, {3, 4}, {3, 4, 5}, {-1, 3, 4, 5}}},
		{x, []api.Sighting{{Tick: 3, Cells: []int{2}, Seen: true}}, [][]int{{0}, {0, 1}, {1, 2}, {2}}},
		{x, []api.Sighting{{Tick: 3, Cells: []int{0, 1, 2, 3, 4, 5}}}, [][]int{{3}, {4}, {5}, {-1}}},
		{x, []api.Sighting{{Tick: 3, Cells: []int{2, 5}, Seen: true}, {Tick: 1, Cells: []int{1, 4}}}, [][]int{{0, 3}, {0, 3}, {1, 4}, {2, 5}}},
		{x, []api.Sighting{{Tick: 2, Cells: nil}, {Tick: 2, Cells: []int{0, 1, 2, 3}}, {Tick: 2, Cells: []int{0, 4}, Seen: true}}, [][]int{{3}, {3, 4}, {4}, {4, 5}}},
	} {
		if l := mustPlaces(t, d, c.x, c.seen); !slices.EqualFunc(l, c.want, slices.Equal) {
			t.Errorf("%d: Places = %v", i, l)
		}
	}
	for i, seen := range [][]api.Sighting{
		{{Tick: 2, Seen: true}}, {{Cells: []int{1, 2, 4, 5}, Seen: true}}, {{Cells: []int{0, 1, 2, 3, 4, 5}}},
		{{Tick: 3, Cells: []int{4}, Seen: true}, {Tick: 2, Cells: []int{3, 4}}},
	} {
		if l, e := drift.Places(d, x, seen); e != api.ErrNone || len(l) > 0 {
			t.Errorf("%d: Places = %v, %d", i, l, e)
		}
	}
}

// TestLeeways is P2.4: a sighting may leave out a leeway in the middle, or several.
func TestLeeways(t *testing.T) {
	d := still(12, 1, 5, 3)
	d.Wind[0] = api.Push{Dirs: 1, Steps: span(3, 3)}
	d.Wind[1] = api.Push{Dirs: 1, Steps: span(0, 1)}
	x := api.Drifter{Cells: []int{0}, Leeway: span(0, 8)}
	for i, c := range []struct {
		seen []api.Sighting
		want []int
	}{
		{nil, []int{0, 1, 2, 3, 4, 5, 6, 7, 8}},
		{[]api.Sighting{{Tick: 1, Cells: []int{3}, Seen: true}}, []int{4, 5}},
		{[]api.Sighting{{Tick: 1, Cells: []int{3, 5, 6}}}, []int{0, 1, 2, 3, 6}},
		{[]api.Sighting{{Tick: 2, Cells: []int{4}, Seen: true}}, []int{4, 5, 6}},
		{[]api.Sighting{{Tick: 2, Cells: []int{8}, Seen: true}}, []int{8}},
		{[]api.Sighting{{Tick: 2, Cells: []int{0, 1, 8}, Seen: true}, {Tick: 1, Cells: []int{1}}}, []int{0, 1, 8}},
	} {
		if l := mustLeeways(t, d, x, c.seen); !slices.Equal(l, c.want) {
			t.Errorf("%d: Leeways = %v", i, l)
		}
	}
	x.Leeway = span(3, 5)
	if l := mustLeeways(t, d, x, nil); !slices.Equal(l, []int{3, 4, 5}) {
		t.Errorf("Leeways = %v", l)
	}
	if l, e := drift.Leeways(d, x, []api.Sighting{{Tick: 1, Cells: []int{4}, Seen: true}}); e != api.ErrNone || len(l) > 0 {
		t.Errorf("Leeways of what cannot be = %v, %d", l, e)
	}
}

// TestOneLeeway: a history keeps its leeway, so that places of different leeways do not follow each other.
func TestOneLeeway(t *testing.T) {
	d := still(12, 1, 5, 3)
	for i := range d.Wind {
		d.Wind[i] = api.Push{Dirs: 1, Steps: span(1, 1)}
	}
	x := api.Drifter{Cells: []int{0}, Leeway: span(0, 8)}
	if l := mustPlaces(t, d, x, nil); !slices.Equal(l[2], []int{0, 2, 4}) {
		t.Errorf("Places = %v", l)
	}
	seen := []api.Sighting{{Tick: 1, Cells: []int{1}, Seen: true}, {Tick: 2, Cells: []int{3}, Seen: true}}
	if _, e := drift.Places(d, x, seen); e != api.ErrNone {
		t.Errorf("Places with two leeways: %d", e)
	}
	if l, e := drift.Conflict(d, x, seen); e != api.OK || !slices.Equal(l, []int{1}) {
		t.Errorf("Conflict = %v, %d", l, e)
	}
	seen[1].Cells[0] = 4
	if l, e := drift.Conflict(d, x, seen); e != api.OK || !slices.Equal(l, []int{0, 1}) {
		t.Errorf("Conflict of two leeways = %v, %d", l, e)
	}
	if l, e := drift.Struck(d, x, seen[:1], 4, 2); e != api.OK || !slices.Equal(l, []int{0}) {
		t.Errorf("Struck = %v, %d", l, e)
	}
}

// TestHistory is P2.5.
func TestHistory(t *testing.T) {
	d, x := sea(), drifter()
	if l, h, e := drift.History(d, x, nil, -1, 1); l != 4 || !slices.Equal(h, []int{4, -1, -1, -1, -1}) || e != api.OK {
		t.Errorf("History to the outside = %d, %v, %d", l, h, e)
	}
	last := api.Drifter{At: 4, Cells: []int{3, 7}, Leeway: span(5, 5)}
	if l, h, e := drift.History(d, last, nil, 7, 4); l != 5 || !slices.Equal(h, []int{7}) || e != api.OK {
		t.Errorf("History in the last tick = %d, %v, %d", l, h, e)
	}
	for _, c := range []struct{ cell, tick int }{{4, 1}, {5, 0}, {-1, 0}, {-1, 1}, {-1, 2}, {11, 2}, {0, 4}} {
		if l, h, e := drift.History(d, x, sightings(), c.cell, c.tick); l != 0 || len(h) > 0 || e != api.ErrNone {
			t.Errorf("History at %d in %d = %d, %v, %d", c.cell, c.tick, l, h, e)
		}
	}
	for _, c := range [][2]int{{-2, 1}, {12, 1}, {4, 5}, {4, -1}, {-1, 5}, {math.MaxInt, 0}, {0, math.MinInt}} {
		if l, h, e := drift.History(d, x, nil, c[0], c[1]); l != 0 || len(h) > 0 || e != api.ErrArg {
			t.Errorf("History at %v = %d, %v, %d", c, l, h, e)
		}
	}
	late := api.Drifter{At: 2, Cells: []int{5}}
	if l, h, e := drift.History(d, late, nil, 5, 1); l != 0 || len(h) > 0 || e != api.ErrArg {
		t.Errorf("History before At = %d, %v, %d", l, h, e)
	}
}

// TestHistoriesOneByOne holds Places, Leeways and History against all histories of small drifts (P2.3 to P2.5, P2.9).
func TestHistoriesOneByOne(t *testing.T) {
	none, some := 0, 0
	for _, p := range puzzles(4, 400, 3, 3, 4) {
		l := possible(histories(p.d, p.x), p.x, p.seen)
		if len(l) == 0 {
			none++
			noPlaces(t, p)
		} else {
			some++
			allPlaces(t, p, l)
		}
		for tick := p.x.At; tick < len(p.d.Chart.Tide); tick++ {
			for cell := -1; cell < len(p.d.Chart.Depth); cell++ {
				oneHistory(t, p, thereIn(l, p.x, cell, tick), cell, tick)
			}
		}
	}
	if none < 50 || some < 50 {
		t.Errorf("%d puzzles without a history, %d with some", none, some)
	}
}

func noPlaces(t *testing.T, p puzzle) {
	t.Helper()
	if l, e := drift.Places(p.d, p.x, p.seen); e != api.ErrNone || len(l) > 0 {
		t.Fatalf("Places(%v) = %v, %d", p, l, e)
	}
	if l, e := drift.Leeways(p.d, p.x, p.seen); e != api.ErrNone || len(l) > 0 {
		t.Fatalf("Leeways(%v) = %v, %d", p, l, e)
	}
}

func allPlaces(t *testing.T, p puzzle, l []history) {
	t.Helper()
	want := make([][]int, len(p.d.Chart.Tide)-p.x.At)
	var leeways []int
	for _, h := range l {
		leeways = append(leeways, h.leeway)
		for i, cell := range h.cells {
			want[i] = append(want[i], cell)
		}
	}
	for i, cells := range mustPlaces(t, p.d, p.x, p.seen) {
		if !slices.Equal(cells, sorted(want[i])) {
			t.Fatalf("Places(%v) in %d: %v, want %v", p, i, cells, sorted(want[i]))
		}
	}
	if got := mustLeeways(t, p.d, p.x, p.seen); !slices.Equal(got, sorted(leeways)) {
		t.Fatalf("Leeways(%v) = %v, want %v", p, got, sorted(leeways))
	}
}

// sorted returns each of some numbers once, in ascending order.
func sorted(l []int) []int {
	l = slices.Clone(l)
	slices.Sort(l)
	return slices.Compact(l)
}

// oneHistory holds History against all possible histories that are there.
func oneHistory(t *testing.T, p puzzle, l []history, cell, tick int) {
	t.Helper()
	leeway, cells, e := drift.History(p.d, p.x, p.seen, cell, tick)
	if len(l) == 0 {
		if e != api.ErrNone || leeway != 0 || len(cells) > 0 {
			t.Fatalf("History(%v, %d, %d) = %d, %v, %d", p, cell, tick, leeway, cells, e)
		}
		return
	}
	is := func(h history) bool { return h.leeway == leeway && slices.Equal(h.cells, cells) }
	if e != api.OK || !slices.ContainsFunc(l, is) {
		t.Fatalf("History(%v, %d, %d) = %d, %v, %d", p, cell, tick, leeway, cells, e)
	}
}
