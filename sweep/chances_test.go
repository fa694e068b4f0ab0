package sweep_test

import (
	"slices"
	"testing"

	"coble/api"
	"coble/sweep"
)

// TestFound is P4.2: what a unit detects, and what several looks detect.
func TestFound(t *testing.T) {
	h := hunt(4, 1, 2, aircraft(0, 1, 50), aircraft(2, 1, 20))
	for i, x := range []struct {
		l    []api.Particle
		plan [][]int
		want api.Share
	}{
		{[]api.Particle{particle(1, 0, 0)}, [][]int{{0, 1}, {2, 3}}, share(1, 2)},   // one look
		{[]api.Particle{particle(1, 0, 0)}, [][]int{{0, 0}, {2, 3}}, share(3, 4)},   // two looks of one unit
		{[]api.Particle{particle(1, 0, 1)}, [][]int{{0, 0}, {2, 1}}, share(3, 5)},   // a look of each unit
		{[]api.Particle{particle(1, 2, 1)}, [][]int{{0, 1}, {2, 3}}, share(3, 5)},   // the other way round
		{[]api.Particle{particle(1, 1, 0)}, [][]int{{0, 1}, {2, 3}}, share(0, 1)},   // where a unit is in another tick
		{[]api.Particle{particle(1, 3, 3)}, [][]int{{0, 0}, {2, 2}}, share(0, 1)},   // never
		{[]api.Particle{particle(1, -1, -1)}, [][]int{{0, 0}, {2, 2}}, share(0, 1)}, // outside
		{[]api.Particle{particle(1, -1, 0)}, [][]int{{0, 0}, {2, 2}}, share(1, 2)},  // and back
		{[]api.Particle{particle(7, 0, 3), particle(3, 1, 3)}, [][]int{{0, 0}, {2, 2}}, share(7, 20)},
		{[]api.Particle{particle(7, 0, 3), particle(3, 2, 3)}, [][]int{{0, 0}, {2, 2}}, share(41, 100)},
		{[]api.Particle{particle(3, 0, 0), particle(1, 0, 0)}, [][]int{{0, 0}, {2, 2}}, share(3, 4)}, // two in one cell
		{[]api.Particle{particle(1, 0, 0), particle(1, 0, 0)}, [][]int{{0, 0}, {2, 2}}, share(3, 4)}, // two that are the same
		{[]api.Particle{particle(200, 0, 0), particle(600, 1, 1)}, [][]int{{0, 0}, {2, 2}}, share(3, 16)},
	} {
		if s := mustFound(t, h, x.l, x.plan); s != x.want {
			t.Errorf("%d: Found = %v", i, s)
		}
	}
}

// TestChances is P4.2: the chances from 0 to 100.
func TestChances(t *testing.T) {
	for chance := range 101 {
		h := hunt(2, 1, 1, aircraft(0, 0, chance))
		if s := mustFound(t, h, []api.Particle{particle(5, 0)}, [][]int{{0}}); s != ratio(chance, 100) {
			t.Errorf("Found with %d = %v", chance, s)
		}
		if s := mustFound(t, h, []api.Particle{particle(5, 1)}, [][]int{{0}}); s != share(0, 1) {
			t.Errorf("Found elsewhere with %d = %v", chance, s)
		}
		l, e := sweep.Left(h, []api.Particle{particle(1, 0), particle(1, 1)}, [][]int{{0}})
		if e != api.OK || !slices.Equal(l, []api.Share{ratio(100-chance, 200-chance), ratio(100, 200-chance)}) {
			t.Errorf("Left with %d = %v, %d", chance, l, e)
		}
	}
}

// TestManyLooks is P4.2 and P4.3 with the greatest numbers: eight looks, and a weight of 800.
func TestManyLooks(t *testing.T) {
	power := func(n int) int { return n * n * n * n * n * n * n * n }
	stay := [][]int{slices.Repeat([]int{0}, 8)}
	there, away := slices.Repeat([]int{0}, 8), slices.Repeat([]int{1}, 8)
	for _, chance := range []int{1, 3, 50, 97, 99} {
		h := hunt(2, 1, 8, aircraft(0, 0, chance))
		miss := power(100 - chance)
		if s := mustFound(t, h, []api.Particle{particle(800, there...)}, stay); s != ratio(power(100)-miss, power(100)) {
			t.Errorf("Found with %d = %v", chance, s)
		}
		l := []api.Particle{particle(799, there...), particle(1, away...)}
		if s := mustFound(t, h, l, stay); s != ratio(799*(power(100)-miss), 800*power(100)) {
			t.Errorf("Found of two with %d = %v", chance, s)
		}
		want := []api.Share{ratio(799*miss, 799*miss+power(100)), ratio(power(100), 799*miss+power(100))}
		if s := mustLeft(t, h, l, stay); !slices.Equal(s, want) {
			t.Errorf("Left with %d = %v", chance, s)
		}
		if _, s := mustBest(t, h, l); s != ratio(799*(power(100)-miss), 800*power(100)) {
			t.Errorf("Best with %d = %v", chance, s)
		}
	}
}

// TestLeft is P4.3, and its error.
func TestLeft(t *testing.T) {
	h := hunt(4, 1, 2, aircraft(0, 1, 100), aircraft(2, 1, 50))
	stay := [][]int{{0, 0}, {2, 2}}
	for i, x := range []struct {
		l    []api.Particle
		want []api.Share
	}{
		{[]api.Particle{particle(1, 1, 1)}, []api.Share{share(1, 1)}},
		{[]api.Particle{particle(5, 2, 2)}, []api.Share{share(1, 1)}},
		{[]api.Particle{particle(1, 1, 1), particle(3, -1, -1)}, []api.Share{share(1, 4), share(3, 4)}},
		{[]api.Particle{particle(4, 2, 2), particle(3, 3, 3), particle(9, 1, 0)}, []api.Share{share(1, 4), share(3, 4), share(0, 1)}},
		{[]api.Particle{particle(9, 0, 0), particle(1, 2, 3)}, []api.Share{share(0, 1), share(1, 1)}},
		{[]api.Particle{particle(2, 2, 3), particle(2, 2, 3), particle(1, 3, 3)}, []api.Share{share(1, 3), share(1, 3), share(1, 3)}},
	} {
		if s := mustLeft(t, h, x.l, stay); !slices.Equal(s, x.want) {
			t.Errorf("%d: Left = %v", i, s)
		}
	}
	for i, l := range [][]api.Particle{{particle(1, 0, 1)}, {particle(800, 3, 0)}, {particle(3, 0, 0), particle(4, 2, 0), particle(5, 0, 3)}} {
		if s, e := sweep.Left(h, l, stay); e != api.ErrNone || len(s) > 0 {
			t.Errorf("%d: Left of what is found for sure = %v, %d", i, s, e)
		}
		if s := mustFound(t, h, l, stay); s != share(1, 1) {
			t.Errorf("%d: Found of what is found for sure = %v", i, s)
		}
	}
}

// TestEnds is P4.6: after one look of 50 percent in each tick the chances are 0, 1/2, 3/4 and 7/8.
func TestEnds(t *testing.T) {
	h := hunt(2, 1, 3, aircraft(0, 1, 50))
	l, p := []api.Particle{particle(1, 0, 0, 0)}, [][]int{{0, 0, 0}}
	for _, x := range []struct{ percent, hope, ticks, reason int }{
		{0, 0, 0, 1}, {0, 60, 0, 1}, {1, 0, 0, 2}, {100, 0, 0, 2}, {1, 1, 1, 1}, {1, 60, 1, 1}, {50, 60, 1, 1}, {50, 1, 1, 1}, {51, 1, 1, 2}, {51, 2, 2, 1},
		{51, 60, 2, 1}, {75, 60, 2, 1}, {76, 60, 3, 1}, {76, 2, 2, 2}, {87, 60, 3, 1}, {87, 3, 3, 1}, {88, 3, 3, 2}, {88, 4, 3, 0}, {100, 60, 3, 0}, {100, 4, 3, 0},
	} {
		if n, reason := mustEnds(t, h, l, p, x.percent, x.hope); n != x.ticks || reason != x.reason {
			t.Errorf("Ends by %d, %d = %d, %d", x.percent, x.hope, n, reason)
		}
	}
	// nothing is ever found, and all is found at once
	away := []api.Particle{particle(1, 1, 1, 1)}
	h.Units[0].Chance = 100
	for _, x := range []struct {
		l                            []api.Particle
		percent, hope, ticks, reason int
	}{{away, 0, 3, 0, 1}, {away, 1, 3, 3, 2}, {away, 1, 4, 3, 0}, {l, 100, 3, 1, 1}, {l, 100, 1, 1, 1}, {l, 100, 0, 0, 2}, {l, 0, 0, 0, 1}} {
		if n, reason := mustEnds(t, h, x.l, p, x.percent, x.hope); n != x.ticks || reason != x.reason {
			t.Errorf("Ends of %v by %d, %d = %d, %d", x.l, x.percent, x.hope, n, reason)
		}
	}
}

// TestEndsExactly is P4.6 where it depends on the last part of a chance: 1 of 800 is missing, or is not.
func TestEndsExactly(t *testing.T) {
	ticks := slices.Repeat([]int{0}, 8)
	h := hunt(2, 1, 8, aircraft(0, 1, 100))
	for weight, want := range map[int]int{399: 0, 400: 1, 401: 1} {
		l := []api.Particle{particle(weight, ticks...), particle(800-weight, slices.Repeat([]int{1}, 8)...)}
		if _, reason := mustEnds(t, h, l, [][]int{ticks}, 50, 60); reason != want {
			t.Errorf("Ends with %d of 800: the reason %d", weight, reason)
		}
	}
	h.Units[0].Chance = 1 // (1 - 0.99 ** 8) is a little more than 7 percent
	l := []api.Particle{particle(800, ticks...)}
	for percent, want := range map[int]int{1: 1, 2: 3, 3: 4, 4: 5, 5: 6, 6: 7, 7: 8} {
		if n, reason := mustEnds(t, h, l, [][]int{ticks}, percent, 60); n != want || reason != 1 {
			t.Errorf("Ends by %d = %d, %d", percent, n, reason)
		}
	}
	if n, reason := mustEnds(t, h, l, [][]int{ticks}, 8, 60); n != 8 || reason != 0 {
		t.Errorf("Ends by 8 = %d, %d", n, reason)
	}
}

// TestChancesOneByOne holds Found, Left and Ends against the model.
func TestChancesOneByOne(t *testing.T) {
	found := map[api.Share]int{}
	for _, p := range planned(puzzles(2, 1500, 4, 3, 8, 12)) {
		m := look(p.h)
		want := m.chance(p.l, p.plan, p.h.Ticks)
		if s := mustFound(t, p.h, p.l, p.plan); s != want {
			t.Fatalf("Found(%v) = %v, not %v", p, s, want)
		}
		holdLeft(t, m, p)
		for _, r := range [][2]int{{0, 0}, {25, 60}, {50, 3}, {90, 2}, {100, 1}, {100, 60}} {
			ticks, reason := m.ends(p, r[0], r[1])
			if n, why := mustEnds(t, p.h, p.l, p.plan, r[0], r[1]); n != ticks || why != reason {
				t.Fatalf("Ends(%v) by %v = %d, %d, not %d, %d", p, r, n, why, ticks, reason)
			}
		}
		found[want]++
	}
	if len(found) < 300 || found[share(0, 1)] < 50 || found[share(1, 1)] < 5 {
		t.Errorf("%d chances, 0: %d, 1: %d", len(found), found[share(0, 1)], found[share(1, 1)])
	}
}

func holdLeft(t *testing.T, m model, p puzzle) {
	t.Helper()
	each, sum := m.left(p.l, p.plan, p.h.Ticks)
	if sum == 0 {
		if l, e := sweep.Left(p.h, p.l, p.plan); e != api.ErrNone || len(l) > 0 {
			t.Fatalf("Left(%v) = %v, %d", p, l, e)
		}
		return
	}
	for i, s := range mustLeft(t, p.h, p.l, p.plan) {
		if s != ratio(each[i], sum) {
			t.Fatalf("Left(%v) of %d = %v", p, i, s)
		}
	}
}

// ends follows the chapter word by word.
func (m model) ends(p puzzle, percent, hope int) (ticks, reason int) {
	for n := range m.Ticks + 1 {
		if compare(m.chance(p.l, p.plan, n), ratio(percent, 100)) >= 0 {
			return n, 1
		}
		if n >= hope {
			return n, 2
		}
	}
	return m.Ticks, 0
}
