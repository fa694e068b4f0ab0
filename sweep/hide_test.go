package sweep_test

import (
	"slices"
	"testing"

	"coble/api"
	"coble/sweep"
)

// row is a puzzle in a row of cells, in which something in the cell 0 may drift one cell to the east in each tick. A unit
// looks into the cell 0 as long as the search lasts, with a chance of 50 percent.
func row(ticks int) puzzle {
	h := api.Hunt{Drift: flood(4, 4, 1), Ticks: ticks, Units: []api.Unit{aircraft(0, 1, 50)}}
	return puzzle{h: h, plan: [][]int{slices.Repeat([]int{0}, ticks)}, x: api.Drifter{Cells: []int{0}}}
}

// TestSure is P4.7, and P4.8 for the same puzzles.
func TestSure(t *testing.T) {
	seen := func(tick int, is bool, cells ...int) api.Sighting {
		return api.Sighting{Tick: tick, Cells: cells, Seen: is}
	}
	plan := func(cells ...int) func(p *puzzle) { return func(p *puzzle) { p.plan[0] = cells } }
	sights := func(l ...api.Sighting) func(p *puzzle) { return func(p *puzzle) { p.seen = l } }
	for i, x := range []struct {
		ticks  int
		change func(p *puzzle)
		want   api.Share
	}{
		{1, plan(0), share(1, 2)},       // it is there in the tick 0, whatever comes later
		{3, plan(0, 0, 0), share(1, 2)}, // it drifts away at once
		{3, plan(0, 1, 1), share(1, 2)}, // or it stays
		{3, sights(seen(1, true, 0)), share(3, 4)},
		{3, sights(seen(2, true, 0)), share(7, 8)}, // it cannot come back
		{3, sights(seen(3, true, 0)), share(7, 8)}, // also after the search
		{2, sights(seen(3, true, 0, 1)), share(1, 2)},
		{3, sights(seen(3, true, 3)), share(1, 2)}, // it drifts on and on
		{3, func(p *puzzle) { p.plan[0], p.seen = []int{0, 1, 2}, []api.Sighting{seen(3, true, 3)} }, share(7, 8)},
		{3, func(p *puzzle) { p.plan[0], p.seen = []int{0, 1, 2}, []api.Sighting{seen(2, false, 0, 1)} }, share(7, 8)},
		{3, func(p *puzzle) { p.plan[0], p.seen = []int{0, 1, 2}, []api.Sighting{seen(2, false, 0)} }, share(1, 2)}, // it stays in 0, and then in 1
		{3, func(p *puzzle) { p.plan[0], p.seen = []int{0, 1, 1}, []api.Sighting{seen(2, false, 0)} }, share(3, 4)},
		{3, func(p *puzzle) { p.x.Cells = []int{0, 3} }, share(0, 1)}, // it may have been elsewhere
		{3, func(p *puzzle) { p.x.Cells = []int{1} }, share(0, 1)},
		{3, func(p *puzzle) { p.x.At = 1 }, share(1, 2)}, // before, it is not detected
		{3, func(p *puzzle) { p.x.At = 2 }, share(1, 2)},
		{3, func(p *puzzle) { p.x.At = 3 }, share(0, 1)}, // after the search it is not
		{4, func(p *puzzle) { p.x.At = 3; p.plan[0] = []int{0, 0, 0, 0} }, share(1, 2)},
		{3, func(p *puzzle) { p.h.Units[0].Chance = 0 }, share(0, 1)},
		{3, func(p *puzzle) { p.h.Units[0].Chance = 100 }, share(1, 1)},
		{3, func(p *puzzle) { p.h.Units[0].Chance, p.seen = 100, []api.Sighting{seen(0, true, 0)} }, share(1, 1)},
		{3, func(p *puzzle) { p.h.Drift = calm(4, 1, 50, 4) }, share(7, 8)}, // nothing drifts
	} {
		p := row(x.ticks)
		x.change(&p)
		if s := mustSure(t, p); s != x.want {
			t.Errorf("%d: Sure = %v", i, s)
		}
		holdHide(t, p, histories(p))
	}
}

// TestTwoSeekers is P4.7: which way is the best one depends on what comes later.
func TestTwoSeekers(t *testing.T) {
	for _, x := range []struct {
		chances [2]int
		plan    [][]int
		want    api.Share
	}{
		{[2]int{50, 50}, [][]int{{0, 0, 0}, {1, 1, 1}}, share(3, 4)}, // over the cell 1 to the cell 2: two looks
		{[2]int{50, 50}, [][]int{{0, 0, 0}, {1, 1, 2}}, share(3, 4)},
		{[2]int{10, 50}, [][]int{{0, 0, 0}, {1, 1, 1}}, share(271, 1000)}, // it stays
		{[2]int{50, 10}, [][]int{{0, 0, 0}, {1, 1, 1}}, share(11, 20)},    // it goes to the cell 2
		{[2]int{50, 10}, [][]int{{0, 0, 0}, {1, 1, 2}}, share(11, 20)},    // it goes to the cell 1 alone
		{[2]int{50, 100}, [][]int{{0, 0, 0}, {1, 1, 1}}, share(7, 8)},
		{[2]int{100, 0}, [][]int{{0, 0, 0}, {1, 1, 1}}, share(1, 1)},
	} {
		p := row(3)
		p.h.Units = []api.Unit{aircraft(0, 1, x.chances[0]), aircraft(1, 1, x.chances[1])}
		p.plan = x.plan
		if s := mustSure(t, p); s != x.want {
			t.Errorf("Sure of %v = %v", x, s)
		}
		holdHide(t, p, histories(p))
	}
}

// TestOutside is P4.7 and P4.8 of what leaves the chart: nobody looks there.
func TestOutside(t *testing.T) {
	p := row(4)
	p.h.Units[0] = aircraft(2, 1, 50)
	p.plan = [][]int{{2, 3, 3, 3}}
	p.x.Cells = []int{3}
	if s := mustSure(t, p); s != share(0, 1) {
		t.Errorf("Sure = %v", s)
	}
	if h := mustHide(t, p); !slices.Equal(h.cells, []int{3, -1, -1, -1}) {
		t.Errorf("Hide = %v", h)
	}
	for tick := range 4 {
		p.seen = []api.Sighting{{Tick: tick, Cells: []int{3}, Seen: true}}
		if s := mustSure(t, p); s != []api.Share{share(0, 1), share(1, 2), share(3, 4), share(7, 8)}[tick] {
			t.Errorf("Sure of what is seen in %d = %v", tick, s)
		}
		holdHide(t, p, histories(p))
	}
	p.seen = []api.Sighting{{Tick: 3, Cells: []int{0, 1, 2, 3}}} // it is outside in the end
	if h := mustHide(t, p); !slices.Equal(h.cells, []int{3, -1, -1, -1}) {
		t.Errorf("Hide of what is outside = %v", h)
	}
	p.seen = append(p.seen, api.Sighting{Tick: 2, Cells: []int{3}, Seen: true})
	if h := mustHide(t, p); !slices.Equal(h.cells, []int{3, 3, 3, -1}) {
		t.Errorf("Hide of what leaves last = %v", h)
	}
}

// TestLeeway is P4.7 and P4.8: a history has one leeway in all its ticks.
func TestLeeway(t *testing.T) {
	d := calm(9, 1, 50, 3)
	d.Wind = slices.Repeat([]api.Push{{Dirs: 1, Steps: span(1, 1)}}, 2)
	p := puzzle{h: api.Hunt{Drift: d, Ticks: 3, Units: []api.Unit{aircraft(0, 3, 50), aircraft(1, 3, 20)}}, x: api.Drifter{Cells: []int{0}, Leeway: span(0, 8)}}
	// with a leeway of 0 to 3 it stays, with 4 to 7 it goes 1 cell, with 8 it goes 2 cells
	for _, x := range []struct {
		plan    [][]int
		least   api.Share
		low, up int
	}{
		{[][]int{{0, 0, 0}, {1, 1, 2}}, share(1, 2), 8, 8},
		{[][]int{{0, 2, 4}, {1, 1, 2}}, share(1, 2), 0, 3},
		{[][]int{{0, 2, 4}, {1, 0, 0}}, share(1, 2), 4, 7},
		{[][]int{{0, 2, 3}, {1, 0, 1}}, share(1, 2), 4, 7}, // 0 1 2: it is never 0 1 1, nor 0 2 2
		{[][]int{{0, 1, 2}, {1, 2, 3}}, share(1, 2), 0, 3},
	} {
		p.plan = x.plan
		if s := mustSure(t, p); s != x.least {
			t.Errorf("Sure of %v = %v", x.plan, s)
		}
		if h := mustHide(t, p); h.leeway < x.low || h.leeway > x.up {
			t.Errorf("Hide of %v = %v", x.plan, h)
		}
	}
	p.plan, p.x.Leeway = [][]int{{0, 0, 0}, {1, 1, 2}}, span(0, 7)
	if s := mustSure(t, p); s != share(17, 25) { // 0 1 2: half of 16/25
		t.Errorf("Sure up to 7 = %v", s)
	}
	p.x.Leeway = span(0, 3)
	if s := mustSure(t, p); s != share(7, 8) {
		t.Errorf("Sure up to 3 = %v", s)
	}
}

// TestSureNone is the ErrNone of P4.7 and P4.8.
func TestSureNone(t *testing.T) {
	p := row(3)
	for i, seen := range [][]api.Sighting{
		{{Tick: 0, Cells: []int{0}}}, {{Tick: 3, Cells: []int{}, Seen: true}}, {{Tick: 1, Cells: []int{2, 3}, Seen: true}},
		{{Tick: 2, Cells: []int{0}}, {Tick: 3, Cells: []int{0}, Seen: true}}, {{Tick: 1, Cells: []int{0}, Seen: true}, {Tick: 1, Cells: []int{0}}},
	} {
		if s, e := sweep.Sure(p.h, p.x, seen, p.plan); e != api.ErrNone || s != share(0, 0) {
			t.Errorf("%d: Sure = %v, %d", i, s, e)
		}
		if n, l, e := sweep.Hide(p.h, p.x, seen, p.plan); e != api.ErrNone || n != 0 || len(l) > 0 {
			t.Errorf("%d: Hide = %d, %v, %d", i, n, l, e)
		}
	}
}

// holdHide holds Sure and Hide against all histories.
func holdHide(t *testing.T, p puzzle, all []history) {
	t.Helper()
	least := share(1, 1)
	for _, h := range all {
		if s := p.detected(h); compare(s, least) < 0 {
			least = s
		}
	}
	if s := mustSure(t, p); s != least {
		t.Fatalf("Sure(%v) = %v, not %v", p, s, least)
	}
	h := mustHide(t, p)
	is := func(x history) bool { return x.leeway == h.leeway && slices.Equal(x.cells, h.cells) }
	if !slices.ContainsFunc(all, is) || p.detected(h) != least {
		t.Fatalf("Hide(%v) = %v, detected %v, not %v", p, h, p.detected(h), least)
	}
}

// TestHideOneByOne is P4.7, P4.8 and P4.13: Sure and Hide against all histories.
func TestHideOneByOne(t *testing.T) {
	found := map[api.Errno]int{}
	for _, p := range planned(puzzles(4, 2500, 4, 3, 4, 1)) {
		all := histories(p)
		if len(all) == 0 {
			if s, e := sweep.Sure(p.h, p.x, p.seen, p.plan); e != api.ErrNone || s != share(0, 0) {
				t.Fatalf("Sure(%v) = %v, %d", p, s, e)
			}
			if n, l, e := sweep.Hide(p.h, p.x, p.seen, p.plan); e != api.ErrNone || n != 0 || len(l) > 0 {
				t.Fatalf("Hide(%v) = %d, %v, %d", p, n, l, e)
			}
			found[api.ErrNone]++
			continue
		}
		holdHide(t, p, all)
		found[api.OK]++
	}
	if found[api.OK] < 500 || found[api.ErrNone] < 50 {
		t.Errorf("found %v", found)
	}
}
