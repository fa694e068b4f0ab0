package drift_test

import (
	"slices"
	"testing"

	"coble/api"
	"coble/drift"
)

// large returns puzzles that have too many histories for all of them to be tried.
func large(seed uint64) []puzzle { return puzzles(seed, 25, 6, 6, 7) }

// isHistory reports whether cells are a possible history.
func (p puzzle) isHistory(h history) bool {
	if h.leeway < p.x.Leeway.Low || h.leeway > p.x.Leeway.High || len(h.cells) != len(p.d.Chart.Tide)-p.x.At || !slices.Contains(p.x.Cells, h.cells[0]) {
		return false
	}
	for i := 1; i < len(h.cells); i++ {
		if !slices.Contains(stepped(p.d, h.cells[i-1], p.x.At+i-1, h.leeway), h.cells[i]) {
			return false
		}
	}
	return len(possible([]history{h}, p.x, p.seen)) == 1
}

// TestWhereverItDrifts is P2.9: Places, Leeways and History say the same.
func TestWhereverItDrifts(t *testing.T) {
	for _, p := range large(7) {
		l, _ := drift.Places(p.d, p.x, p.seen)
		leeways, _ := drift.Leeways(p.d, p.x, p.seen)
		for tick := p.x.At; tick < len(p.d.Chart.Tide); tick++ {
			for cell := -1; cell < len(p.d.Chart.Depth); cell++ {
				leeway, h, e := drift.History(p.d, p.x, p.seen, cell, tick)
				there := len(l) > 0 && slices.Contains(l[tick-p.x.At], cell)
				if there != (e == api.OK) || !there && e != api.ErrNone {
					t.Fatalf("History(%v, %d, %d): %d, in Places %v", p, cell, tick, e, there)
				}
				if there && (!p.isHistory(history{leeway, h}) || h[tick-p.x.At] != cell || !slices.Contains(leeways, leeway)) {
					t.Fatalf("History(%v, %d, %d) = %d, %v", p, cell, tick, leeway, h)
				}
			}
		}
	}
}

// TestWithOneSightingMore is P2.10 and P2.13: nothing is added, sure does not become less, and may not greater.
func TestWithOneSightingMore(t *testing.T) {
	for _, p := range puzzles(8, 300, 5, 5, 5) {
		for n := range p.seen {
			less, more := p, p
			less.seen, more.seen = p.seen[:n], p.seen[:n+1]
			if _, e := drift.Places(more.d, more.x, more.seen); e != api.OK {
				break
			}
			noneLost(t, more, less, "without a sighting")
			sure, may := mustAlive(t, less)
			if s, m := mustAlive(t, more); s < sure || m > may {
				t.Fatalf("Alive(%v) = %d, %d, but without a sighting %d, %d", more, s, m, sure, may)
			}
		}
	}
}

// noneLost: all places and leeways of p are those of q, too.
func noneLost(t *testing.T, p, q puzzle, with string) {
	t.Helper()
	l, now := mustPlaces(t, p.d, p.x, p.seen), mustPlaces(t, q.d, q.x, q.seen)
	for i := range l {
		if !has(now[i], l[i]) {
			t.Fatalf("Places(%v) = %v, but %s %v", p, l, with, now)
		}
	}
	old, leeways := mustLeeways(t, p.d, p.x, p.seen), mustLeeways(t, q.d, q.x, q.seen)
	if !has(leeways, old) {
		t.Fatalf("Leeways(%v) = %v, but %s %v", p, old, with, leeways)
	}
}

// TestWithMore is P2.10: wider pushes, a wider leeway or more cells lose nothing.
func TestWithMore(t *testing.T) {
	for _, p := range puzzles(9, 300, 5, 5, 5) {
		if _, e := drift.Places(p.d, p.x, p.seen); e != api.OK {
			continue
		}
		for name, change := range map[string]func(q *puzzle){
			"with wider currents":  func(q *puzzle) { q.d.Currents[0] = wider(q.d.Currents[0]) },
			"with more wind":       func(q *puzzle) { q.d.Wind = wider(q.d.Wind) },
			"with a lesser leeway": func(q *puzzle) { q.x.Leeway.Low = max(0, q.x.Leeway.Low-1) },
			"with more leeway":     func(q *puzzle) { q.x.Leeway.High = min(8, q.x.Leeway.High+1) },
			"with more cells":      func(q *puzzle) { q.x.Cells = cells(q.d.Chart) },
		} {
			q := p
			q.d = copied(p.d)
			change(&q)
			noneLost(t, p, q, name)
		}
	}
}

func wider(l []api.Push) []api.Push {
	l = slices.Clone(l)
	for i, p := range l {
		l[i] = api.Push{Dirs: p.Dirs | 1<<i, Steps: span(max(0, p.Steps.Low-1), min(3, p.Steps.High+1))}
	}
	return l
}

// pick returns the sightings of some indexes, but for one of them.
func pick(seen []api.Sighting, indexes []int, but int) []api.Sighting {
	var l []api.Sighting
	for _, i := range indexes {
		if i != but {
			l = append(l, seen[i])
		}
	}
	return l
}

// TestWhatIsStruckOut is P2.11.
func TestWhatIsStruckOut(t *testing.T) {
	for _, p := range large(10) {
		for tick := p.x.At; tick < len(p.d.Chart.Tide); tick++ {
			for cell := -1; cell < len(p.d.Chart.Depth); cell++ {
				struck, e := drift.Struck(p.d, p.x, p.seen, cell, tick)
				if e == api.ErrNone {
					continue
				}
				isThere := func(seen []api.Sighting) bool {
					_, _, e := drift.History(p.d, p.x, seen, cell, tick)
					return e == api.OK
				}
				if e != api.OK || !slices.IsSorted(struck) || isThere(pick(p.seen, struck, -1)) {
					t.Fatalf("Struck(%v, %d, %d) = %v, %d", p, cell, tick, struck, e)
				}
				for _, i := range struck {
					if !isThere(pick(p.seen, struck, i)) {
						t.Fatalf("Struck(%v, %d, %d) = %v, also without %d", p, cell, tick, struck, i)
					}
				}
			}
		}
	}
}

// TestWhatContradicts is P2.12.
func TestWhatContradicts(t *testing.T) {
	for _, p := range puzzles(11, 300, 5, 5, 5) {
		l, e := drift.Conflict(p.d, p.x, p.seen)
		isPossible := func(seen []api.Sighting) bool {
			_, e := drift.Places(p.d, p.x, seen)
			return e == api.OK
		}
		if isPossible(p.seen) != (e == api.ErrNone) {
			t.Fatalf("Conflict(%v) = %v, %d", p, l, e)
		}
		if e == api.ErrNone {
			continue
		}
		if e != api.OK || !slices.IsSorted(l) || isPossible(pick(p.seen, l, -1)) {
			t.Fatalf("Conflict(%v) = %v, %d", p, l, e)
		}
		for _, i := range l {
			if !isPossible(pick(p.seen, l, i)) {
				t.Fatalf("Conflict(%v) = %v, also without %d", p, l, i)
			}
		}
	}
}
