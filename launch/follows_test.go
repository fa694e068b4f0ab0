package launch_test

import (
	"slices"
	"testing"

	"coble/api"
)

// wide are launches on larger charts, for what follows for all of them.
func wide(seed uint64) []puzzle { return puzzles(seed, 500, 9, 9, 24) }

// TestWhoIsLaunchedComesBack is P5.9: the boat floats with each tide, the sea is calm enough, and the Reserve is left.
func TestWhoIsLaunchedComesBack(t *testing.T) {
	n := 0
	for _, p := range wide(9) {
		for cell, reason := range mustRound(t, p) {
			if reason != 0 {
				continue
			}
			p.k.Cell = cell
			_, v := mustGo(t, p)
			holdVoyage(t, p, v)
			n++
		}
	}
	if n < 500 {
		t.Errorf("only %d boats are launched", n)
	}
}

// TestNoCheaperWay is P5.10: the least fuel with which the reason is not 4 is what the voyage burns, and the Reserve.
func TestNoCheaperWay(t *testing.T) {
	n := 0
	for _, p := range wide(10) {
		p.fuel = 5000
		if reason, v := mustGo(t, p); reason == 0 {
			want := p.decideByMoves()
			p.fuel = v.Burns + p.b.Reserve
			hold(t, p, want)
			if p.fuel--; p.fuel >= 0 {
				hold(t, p, verdict{reason: 4})
			}
			n++
		}
	}
	if n < 50 {
		t.Errorf("only %d boats are launched", n)
	}
}

// TestMoreKeepsTheReason is P5.11.
func TestMoreKeepsTheReason(t *testing.T) {
	for name, change := range map[string]func(p *puzzle){
		"more fuel":        func(p *puzzle) { p.fuel += 7 },
		"a lesser Reserve": func(p *puzzle) { p.b.Reserve /= 2 },
		"greater Seas":     func(p *puzzle) { p.b.Seas++ },
		"a lesser stay":    func(p *puzzle) { p.k.Stay /= 2 },
	} {
		kept, won := 0, 0
		for _, p := range wide(11) {
			q := p
			change(&q)
			more := mustRound(t, q)
			for cell, reason := range mustRound(t, p) {
				if reason == 0 && more[cell] != 0 {
					t.Fatalf("%s: %v has 0 for %d, then %d", name, p, cell, more[cell])
				}
				if reason == 0 {
					kept++
				} else if more[cell] == 0 {
					won++
				}
			}
		}
		if kept < 500 || won < 20 {
			t.Errorf("%s: the puzzles are too much alike: %d, %d", name, kept, won)
		}
	}
}

// TestReachIsArrival: a boat is launched when it is at its ramp, and is in no cell before its neighbours.
func TestReachIsArrival(t *testing.T) {
	for _, p := range wide(12) {
		first := mustReach(t, p)
		if want := p.isOpen(p.tick); want != (first[p.r.Cell] == p.tick) || !want && slices.Max(first) >= 0 {
			t.Fatalf("Reach of %v = %v", p, first)
		}
		near := p.nearCells()
		for cell, tick := range first {
			sooner := func(n int) bool { return first[n] >= 0 && first[n] < tick }
			if tick > p.tick && !slices.ContainsFunc(near[cell], sooner) || tick >= 0 && tick < p.tick {
				t.Fatalf("Reach of %v = %v has %d too soon", p, first, cell)
			}
		}
	}
}

// TestLargest: the largest chart, the longest time, and fuel that is just enough.
func TestLargest(t *testing.T) {
	b := api.Class{Draught: 100, Seas: 100, Move: 100, Idle: 40, Reserve: 500}
	p := puzzle{c: calm(12, 12, 200, 60), b: b, r: slip(0), fuel: 5000, k: api.Task{Cell: 143, Stay: 8}}
	p.c.Swell = slices.Repeat([]int{100}, 60)
	hold(t, p, verdict{0, 34*100 + 8*40, 43})
	p.b.Reserve = 5000 - 3720
	hold(t, p, verdict{0, 3720, 43})
	p.b.Reserve++
	hold(t, p, verdict{reason: 4})
	p.b.Move, p.b.Idle, p.b.Reserve = 100, 100, 5000
	hold(t, p, verdict{reason: 4})
	for range 20 {
		mustRound(t, p)
		mustReach(t, p)
	}
	p.b.Idle, p.b.Reserve, p.k.Cell = 0, 0, 143
	p.c.Depth[0] = 199
	p.c.Tide[0], p.c.Tide[59] = span(1, 1), span(200, 200)
	hold(t, p, verdict{0, 3400, 60})
}
