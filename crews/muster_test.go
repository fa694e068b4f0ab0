package crews_test

import (
	"slices"
	"testing"

	"coble/api"
)

// holdMuster asks for a crew.
func holdMuster(t *testing.T, name string, p puzzle, want int, crew ...int) {
	t.Helper()
	if tick, who, ok := p.muster(t); !ok || tick != want || !slices.Equal(who, crew) {
		t.Errorf("%s: Muster = %d, %v, %v, not %d, %v", name, tick, who, ok, want, crew)
	}
}

// holdNoCrew asks for a crew where there is none.
func holdNoCrew(t *testing.T, name string, p puzzle) {
	t.Helper()
	if tick, who, ok := p.muster(t); ok {
		t.Errorf("%s: Muster = %d, %v", name, tick, who)
	}
}

// asks is a call at the tick 0 for a crew of one tick.
func asks(s api.Station, seats ...int) puzzle { return puzzle{s: s, length: 1, seats: seats} }

// TestMuster is P7.6: the hands have the skills, come, and are surely ready; the first of them sit in the first seats.
func TestMuster(t *testing.T) {
	three := of(10, 10, comes(7), comes(7), comes(7))
	holdMuster(t, "no seats", asks(three), 0)
	holdMuster(t, "no seats and no hands", asks(of(1, 0)), 0)
	holdMuster(t, "two seats", asks(three, 1, 2), 0, 0, 1)
	holdMuster(t, "seats for anyone", asks(three, 0, 0, 0), 0, 0, 1, 2)
	holdNoCrew(t, "four seats", asks(three, 0, 0, 0, 0))
	holdNoCrew(t, "no hands", asks(of(10, 10), 0))
	holdNoCrew(t, "a skill that nobody has", asks(three, 8))
	holdNoCrew(t, "skills that nobody has together", asks(of(10, 10, comes(1), comes(2)), 3))
	holdMuster(t, "all skills of a seat", asks(of(10, 10, comes(1), comes(2), comes(6), comes(7)), 3, 2), 0, 3, 1)
	holdMuster(t, "who is needed elsewhere", asks(of(10, 10, comes(3), comes(1)), 1, 2), 0, 1, 0)
	holdMuster(t, "who is needed further behind", asks(of(10, 10, comes(7), comes(3), comes(1)), 1, 2, 4), 0, 2, 1, 0)
	holdMuster(t, "the lower hand in the first seat", asks(of(10, 10, comes(2), comes(3), comes(1), comes(3)), 3, 3, 2), 0, 1, 3, 0)
	holdMuster(t, "who comes", asks(of(10, 10, hand(1, 0, 0, api.Silent), hand(1, 0, 0, api.Stays), comes(1)), 1), 0, 2)
	holdNoCrew(t, "who is silent", asks(of(10, 10, hand(1, 0, 0, api.Silent)), 1))
	holdNoCrew(t, "who stays", asks(of(10, 10, hand(1, 0, 0, api.Stays)), 1))
}

// TestMusterInTime is P7.6: the latest way to the station counts, from the call on, and then the hand with the lower number.
func TestMusterInTime(t *testing.T) {
	s := of(10, 10, hand(1, 0, 60, api.Comes), hand(1, 5, 7, api.Comes), hand(1, 7, 7, api.Comes), hand(3, 0, 9, api.Comes))
	for _, call := range []int{0, 1, 50, 100} {
		for _, x := range []struct {
			seats []int
			want  int
			crew  []int
		}{{nil, 0, nil}, {[]int{1}, 7, []int{1}}, {[]int{1, 1}, 7, []int{1, 2}}, {[]int{2}, 9, []int{3}}, {[]int{1, 2}, 9, []int{1, 3}}, {[]int{1, 1, 1}, 9, []int{1, 2, 3}}, {[]int{1, 1, 1, 1}, 60, []int{0, 1, 2, 3}}, {[]int{1, 1, 1, 2}, 60, []int{0, 1, 2, 3}}} {
			holdMuster(t, "in time", puzzle{s: s, call: call, seats: x.seats, length: 2}, call+x.want, x.crew...)
		}
	}
}

// TestMusterOfTired is P7.6: who may not serve from a tick on, for so long, is in no crew that is complete then.
func TestMusterOfTired(t *testing.T) {
	s := of(10, 6, comes(1, span(-4, -1)), hand(1, 0, 3, api.Comes))
	for _, x := range []struct{ call, length, want, who int }{{0, 1, 0, 0}, {0, 2, 0, 0}, {0, 3, 3, 1}, {1, 3, 4, 0}, {2, 3, 4, 0}, {4, 3, 4, 0}, {5, 3, 5, 0}, {0, 6, 3, 1}, {1, 6, 4, 0}, {9, 6, 9, 0}} {
		p := puzzle{s: s, call: x.call, seats: []int{1}, length: x.length}
		holdMuster(t, "tired", p, x.want, x.who)
	}
	holdNoCrew(t, "too long", puzzle{s: s, seats: []int{1}, length: 7})
	holdNoCrew(t, "never", puzzle{s: of(10, 0, comes(1)), seats: []int{1}, length: 1})
	holdMuster(t, "as long as can be", puzzle{s: of(100, 40, comes(1)), call: 100, seats: []int{1}, length: 40}, 100, 0)
	holdNoCrew(t, "longer than that", puzzle{s: of(100, 39, comes(1)), call: 100, seats: []int{1}, length: 40})
	holdMuster(t, "always", puzzle{s: of(1, 1, comes(1, span(-200, -1))), seats: []int{1}, length: 40}, 0, 0)
	// The window of 100 ticks is over only after 99 of them.
	holdMuster(t, "long after the call", puzzle{s: of(100, 1, comes(1, span(-1, -1))), seats: []int{1}, length: 1}, 99, 0)
	holdMuster(t, "after a later call", puzzle{s: of(100, 1, comes(1, span(-1, -1))), call: 40, seats: []int{1}, length: 1}, 99, 0)
	holdMuster(t, "after half of it", puzzle{s: of(100, 50, comes(1, span(-50, -1))), seats: []int{1}, length: 30}, 50, 0)
}

// TestMusterOneByOne holds Muster against all hands at all ticks, tried one by one.
func TestMusterOneByOne(t *testing.T) {
	none, late, turned := 0, 0, 0
	for _, p := range small(6) {
		tick, who, ok := p.muster(t)
		if want, crew, is := p.byMuster(); ok != is || tick != want || ok && !slices.Equal(who, crew) {
			t.Fatalf("Muster of %v = %d, %v, %v, not %d, %v, %v", p, tick, who, ok, want, crew, is)
		}
		if !ok {
			none++
		}
		if tick > p.call {
			late++
		}
		if !slices.IsSorted(who) {
			turned++
		}
	}
	if none < 300 || late < 300 || turned < 30 {
		t.Errorf("the puzzles are too much alike: %d, %d, %d", none, late, turned)
	}
}

// TestLacking is P7.7: the first seats are taken away as long as there is no crew for the others.
func TestLacking(t *testing.T) {
	s := of(10, 6, comes(3), comes(1), comes(4))
	for _, x := range []struct {
		seats []int
		want  []int
	}{
		{[]int{8}, []int{0}}, {[]int{8, 8}, []int{1}}, {[]int{8, 1, 16}, []int{2}}, {[]int{2, 2}, []int{0, 1}}, {[]int{2, 1, 2}, []int{0, 2}}, {[]int{2, 2, 2}, []int{1, 2}}, {[]int{1, 1, 1}, []int{0, 1, 2}}, {[]int{1, 1, 2}, []int{0, 1, 2}},
		{[]int{2, 2, 8}, []int{2}}, {[]int{8, 2, 2}, []int{1, 2}}, {[]int{0, 0, 0, 0}, []int{0, 1, 2, 3}}, {[]int{4, 0, 4, 0, 1}, []int{1, 2, 3, 4}}, {[]int{4, 0, 4}, []int{0, 2}}, {[]int{1, 4, 0, 8, 0}, []int{3}}, {[]int{5, 0, 5}, []int{2}}, {[]int{0, 1, 1, 4, 2}, []int{1, 2, 4}},
	} {
		p := puzzle{s: s, seats: x.seats, length: 3}
		if l, ok := p.lacking(t); !ok || !slices.Equal(l, x.want) {
			t.Errorf("Lacking of %v = %v, %v, not %v", x.seats, l, ok, x.want)
		}
	}
	for _, seats := range [][]int{nil, {0}, {1, 2}, {4, 1, 2}, {0, 0, 0}, {2, 0, 1}} {
		if l, ok := (puzzle{s: s, seats: seats, length: 3}).lacking(t); ok {
			t.Errorf("Lacking of %v = %v", seats, l)
		}
	}
	// Nobody may serve for seven ticks, but without seats nobody has to.
	if l, ok := (puzzle{s: s, seats: []int{1, 4}, length: 7}).lacking(t); !ok || !slices.Equal(l, []int{1}) {
		t.Errorf("Lacking for seven ticks = %v, %v", l, ok)
	}
	// The seats are lacking only if there is no crew at any tick.
	late := of(10, 6, comes(1, span(-6, -1)), hand(1, 0, 60, api.Comes))
	if l, ok := (puzzle{s: late, call: 2, seats: []int{1, 1}, length: 3}).lacking(t); ok {
		t.Errorf("Lacking of a late crew = %v", l)
	}
}

// TestLackingOneByOne holds Lacking against all hands at all ticks, and is P7.15: without any one of the seats there is a crew.
func TestLackingOneByOne(t *testing.T) {
	n, some, single := 0, 0, 0
	for _, p := range small(7) {
		l, ok := p.lacking(t)
		if want, is := p.byLacking(); ok != is || !slices.Equal(l, want) {
			t.Fatalf("Lacking of %v = %v, %v, not %v, %v", p, l, ok, want, is)
		}
		if !ok {
			continue
		}
		holdLacking(t, p, l)
		n++
		if len(l) > 1 {
			some++
		}
		if len(l) < len(p.seats) {
			single++
		}
	}
	if n < 300 || some < 50 || single < 100 {
		t.Errorf("the puzzles are too much alike: %d, %d, %d", n, some, single)
	}
}

// holdLacking holds that for some seats there is no crew, but without any one of them.
func holdLacking(t *testing.T, p puzzle, l []int) {
	t.Helper()
	all := p.seats
	choose := func(leave int) puzzle {
		p.seats = nil
		for _, i := range l {
			if i != leave {
				p.seats = append(p.seats, all[i])
			}
		}
		return p
	}
	if tick, who, ok := choose(-1).muster(t); ok {
		t.Errorf("%v: the seats %v are lacking, but %v come at %d", p.s, l, who, tick)
	}
	for _, i := range l {
		if _, _, ok := choose(i).muster(t); !ok {
			t.Errorf("%v: of the seats %v, %d is not needed", p.s, l, i)
		}
	}
}
