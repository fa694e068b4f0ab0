package launch_test

import (
	"slices"
	"testing"

	"coble/api"
)

// holdVoyage holds that a voyage is one for the call, and that it burns what it says.
func holdVoyage(t *testing.T, p puzzle, v api.Voyage) {
	t.Helper()
	if !p.isPassage(v.Cells) || !p.answers(v.Cells) || p.burns(v.Cells) != v.Burns || v.Burns+p.b.Reserve > p.fuel {
		t.Fatalf("Go of %v goes by %v", p, v)
	}
}

// hold holds Go against what is known to be right.
func hold(t *testing.T, p puzzle, want verdict) {
	t.Helper()
	reason, v := mustGo(t, p)
	if got := (verdict{reason, v.Burns, len(v.Cells)}); got != want {
		t.Fatalf("Go of %v = %v, not %v", p, got, want)
	}
	if reason == 0 {
		holdVoyage(t, p, v)
	}
}

// TestGo is P5.4: the reasons, one before the other, and voyages that are the only ones.
func TestGo(t *testing.T) {
	deep := puzzle{c: calm(3, 1, 50, 6), b: class(), r: slip(0), fuel: 5000, k: api.Task{Cell: 2}}
	for name, x := range map[string]struct {
		change func(p *puzzle)
		reason int
		cells  []int
	}{
		"as it is":                        {func(p *puzzle) {}, 0, []int{0, 1, 2, 1, 0}},
		"a stay":                          {func(p *puzzle) { p.k.Stay = 1 }, 0, []int{0, 1, 2, 2, 1, 0}},
		"too long a stay":                 {func(p *puzzle) { p.k.Stay = 2 }, 3, nil},
		"at the ramp":                     {func(p *puzzle) { p.k.Cell = 0 }, 0, []int{0}},
		"a stay at the ramp":              {func(p *puzzle) { p.k = api.Task{Cell: 0, Stay: 2} }, 0, []int{0, 0, 0}},
		"a stay until the last tick":      {func(p *puzzle) { p.k = api.Task{Cell: 0, Stay: 5} }, 0, []int{0, 0, 0, 0, 0, 0}},
		"a stay beyond it":                {func(p *puzzle) { p.k = api.Task{Cell: 0, Stay: 6} }, 3, nil},
		"the last tick":                   {func(p *puzzle) { p.tick, p.k.Cell = 5, 0 }, 0, []int{0}},
		"too late to come there":          {func(p *puzzle) { p.tick = 4 }, 2, nil},
		"too late to come back":           {func(p *puzzle) { p.tick = 2 }, 3, nil},
		"a swell at once":                 {func(p *puzzle) { p.c.Swell[0] = 6 }, 1, nil},
		"a swell on the way out":          {func(p *puzzle) { p.c.Swell[2] = 6 }, 2, nil},
		"a swell on the way back":         {func(p *puzzle) { p.c.Swell[3] = 6 }, 3, nil},
		"a swell at the end":              {func(p *puzzle) { p.c.Swell[4] = 6 }, 3, nil},
		"a swell behind it":               {func(p *puzzle) { p.c.Swell[5] = 6 }, 0, []int{0, 1, 2, 1, 0}},
		"a swell before it":               {func(p *puzzle) { p.tick, p.k.Cell, p.c.Swell[0] = 1, 1, 6 }, 0, []int{0, 1, 0}},
		"a surf on the way":               {func(p *puzzle) { p.r.Surf, p.c.Swell[2] = 3, 4 }, 0, []int{0, 1, 2, 1, 0}},
		"a surf at the end":               {func(p *puzzle) { p.r.Surf, p.c.Swell[4] = 3, 4 }, 0, []int{0, 1, 2, 2, 1, 0}},
		"a surf until the end":            {func(p *puzzle) { p.r.Surf, p.c.Swell[4], p.c.Swell[5] = 3, 4, 4 }, 3, nil},
		"a tide at the end":               {func(p *puzzle) { p.r.Most, p.c.Tide[4] = 0, span(0, 1) }, 0, []int{0, 1, 2, 2, 1, 0}},
		"a tide before the launch":        {func(p *puzzle) { p.tick, p.k.Cell, p.r.Least, p.c.Tide[1] = 1, 1, 1, span(0, 1) }, 1, nil},
		"a dry ramp on the way":           {func(p *puzzle) { p.c.Depth[0], p.c.Swell[2] = 20, 1 }, 0, []int{0, 1, 2, 1, 0}},
		"enough fuel":                     {func(p *puzzle) { p.fuel = 26 }, 0, []int{0, 1, 2, 1, 0}},
		"too little fuel":                 {func(p *puzzle) { p.fuel = 25 }, 4, nil},
		"no fuel and no need":             {func(p *puzzle) { p.fuel, p.b.Reserve, p.k.Cell = 0, 0, 0 }, 0, []int{0}},
		"no fuel and a stay":              {func(p *puzzle) { p.fuel, p.b.Reserve, p.k = 0, 0, api.Task{Cell: 0, Stay: 1} }, 4, nil},
		"no fuel and no voyage":           {func(p *puzzle) { p.fuel, p.tick = 0, 2 }, 3, nil},
		"no fuel and too late":            {func(p *puzzle) { p.fuel, p.tick = 0, 4 }, 2, nil},
		"no fuel and no launch":           {func(p *puzzle) { p.fuel, p.tick, p.c.Swell[4] = 0, 4, 6 }, 1, nil},
		"a cell that falls dry at once":   {func(p *puzzle) { p.c.Depth[2], p.c.Swell[3] = 20, 1 }, 0, []int{0, 1, 2, 1, 0}},
		"a cell that falls dry too soon":  {func(p *puzzle) { p.c.Depth[2], p.c.Swell[3], p.k.Stay = 20, 1, 1 }, 3, nil},
		"a cell that is dry at first":     {func(p *puzzle) { p.c.Depth[1], p.c.Swell[1] = 20, 1 }, 0, []int{0, 0, 1, 2, 1, 0}},
		"a boat that floats only perhaps": {func(p *puzzle) { p.c.Depth[1], p.c.Tide[1] = 19, span(0, 1) }, 2, nil},
	} {
		p := deep
		p.c = copied(deep.c)
		x.change(&p)
		reason, v := mustGo(t, p)
		if reason != x.reason || !slices.Equal(v.Cells, x.cells) {
			t.Errorf("%s: Go = %d, %v", name, reason, v)
		}
		if want := p.decide(); (verdict{reason, v.Burns, len(v.Cells)}) != want {
			t.Errorf("%s: Go = %d, %v, not %v", name, reason, v, want)
		}
	}
}

// TestGoSavesFuel is P5.4: to burn less counts before to end sooner, and idle ticks may cost nothing or as much as moves.
func TestGoSavesFuel(t *testing.T) {
	// The cell 1 on the way to the call is dry until the tick 4; it is one move more to come there by the cells 4 and 5.
	p := puzzle{c: calm(4, 2, 50, 9), b: class(), r: slip(0), fuel: 5000, k: api.Task{Cell: 2}}
	p.c.Depth[1] = 15
	for tick := 4; tick < 9; tick++ {
		p.c.Tide[tick] = span(5, 5)
	}
	for i, x := range []struct{ move, idle, burns, ticks int }{{10, 0, 40, 8}, {10, 3, 49, 8}, {9, 3, 45, 6}, {10, 4, 50, 6}, {10, 10, 50, 6}, {100, 33, 499, 8}, {99, 33, 495, 6}} {
		p.b.Move, p.b.Idle = x.move, x.idle
		_, v := mustGo(t, p)
		if v.Burns != x.burns || len(v.Cells) != x.ticks {
			t.Errorf("%d: Go = %v", i, v)
		}
		hold(t, p, p.decide())
	}
}

// TestGoOneByOne is P5.4, P5.9 and P5.10: Go against all passages.
func TestGoOneByOne(t *testing.T) {
	var reasons [5]int
	long := 0
	for _, p := range puzzles(3, 12000, 3, 3, 7) {
		want := p.decide()
		hold(t, p, want)
		reasons[want.reason]++
		if want.ticks > 3 {
			long++
		}
	}
	if slices.Min(reasons[:]) < 100 || long < 200 {
		t.Errorf("the puzzles are too much alike: %v, %d", reasons, long)
	}
}

// TestGoByMoves is P5.4, P5.9 and P5.10 on larger charts: Go against the fewest moves that chart tells.
func TestGoByMoves(t *testing.T) {
	var reasons [5]int
	long := 0
	for _, p := range puzzles(4, 400, 8, 8, 20) {
		for _, cell := range []int{p.k.Cell, p.r.Cell, len(p.c.Depth) / 2} {
			p.k.Cell, p.fuel = cell, 60+p.fuel
			want := p.decideByMoves()
			hold(t, p, want)
			reasons[want.reason]++
			if want.ticks > 6 {
				long++
			}
		}
	}
	if slices.Min(reasons[:4]) < 30 || long < 30 {
		t.Errorf("the puzzles are too much alike: %v, %d", reasons, long)
	}
}

// TestRound is P5.5: it says of each cell what Go says.
func TestRound(t *testing.T) {
	l := puzzles(5, 600, 4, 4, 9)
	for stay := range 9 {
		p := first()
		p.k.Stay = stay
		l = append(l, p, p.at(1), p.at(4))
	}
	var reasons [5]int
	for _, p := range l {
		want := make([]int, len(p.c.Depth))
		for cell := range want {
			q := p
			q.k.Cell = cell
			want[cell], _ = mustGo(t, q)
			reasons[want[cell]]++
		}
		if l := mustRound(t, p); !slices.Equal(l, want) {
			t.Fatalf("Round of %v = %v, not %v", p, l, want)
		}
	}
	if slices.Min(reasons[:]) < 100 {
		t.Errorf("the puzzles are too much alike: %v", reasons)
	}
}

// TestReasonTwo is P5.4: it is given just for those cells that Reach does not name.
func TestReasonTwo(t *testing.T) {
	for _, p := range puzzles(6, 1000, 4, 4, 8) {
		first := mustReach(t, p)
		for cell, reason := range mustRound(t, p) {
			if never := first[cell] < 0; (reason == 1 || reason == 2) != never || (reason == 1) != (first[p.r.Cell] < 0) {
				t.Fatalf("Round of %v has %d for %d, Reach %v", p, reason, cell, first)
			}
		}
	}
}
