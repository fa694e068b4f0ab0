package crews_test

import (
	"slices"
	"testing"

	"coble/api"
)

// holdWatch asks for hands for shifts.
func holdWatch(t *testing.T, name string, s api.Station, seats []int, shifts []api.Span, want ...[]int) {
	t.Helper()
	if l, ok := (puzzle{s: s, seats: seats, shifts: shifts}).watch(t); !ok || !same(l, want) {
		t.Errorf("%s: Watch = %v, %v, not %v", name, l, ok, want)
	}
}

// holdNoWatch asks for hands for shifts that cannot all be filled.
func holdNoWatch(t *testing.T, name string, s api.Station, seats []int, shifts ...api.Span) {
	t.Helper()
	if l, ok := (puzzle{s: s, seats: seats, shifts: shifts}).watch(t); ok {
		t.Errorf("%s: Watch = %v", name, l)
	}
}

// TestWatch is P7.9: for each shift there are different hands with the skills of the seats, the lower ones first.
func TestWatch(t *testing.T) {
	one, two := []api.Span{span(0, 2)}, []api.Span{span(0, 2), span(3, 5)}
	three := of(10, 10, comes(7), comes(7), comes(7))
	holdWatch(t, "no shifts", three, []int{8, 8}, nil)
	holdWatch(t, "no seats", three, nil, two, nil, nil)
	holdWatch(t, "no hands and no seats", of(1, 0), nil, one, nil)
	holdWatch(t, "one shift", three, []int{1, 2}, one, []int{0, 1})
	holdWatch(t, "two shifts", three, []int{1, 2}, two, []int{0, 1}, []int{0, 1})
	holdNoWatch(t, "four seats", three, []int{0, 0, 0, 0}, one...)
	holdNoWatch(t, "a skill that nobody has", three, []int{8}, one...)
	holdNoWatch(t, "no hands", of(10, 10), []int{0}, one...)
	holdWatch(t, "all skills of a seat", of(10, 10, comes(1), comes(2), comes(6), comes(7)), []int{3, 2}, two, []int{3, 1}, []int{3, 1})
	holdWatch(t, "who is needed elsewhere", of(10, 10, comes(3), comes(1)), []int{1, 2}, one, []int{1, 0})
	holdWatch(t, "any answer", of(10, 10, hand(1, 0, 60, api.Stays), hand(1, 60, 60, api.Silent), comes(1)), []int{0, 1}, one, []int{0, 1})
	holdWatch(t, "the last ticks", three, []int{0}, []api.Span{span(399, 399), span(400, 400)}, []int{0}, []int{0})
}

// TestWatchInTurns is P7.9: the rule counts the ticks of all shifts of a hand together.
func TestWatchInTurns(t *testing.T) {
	s := of(10, 6, comes(1), comes(1), comes(1))
	for _, x := range []struct {
		shifts []api.Span
		want   []int
	}{
		{[]api.Span{span(0, 5)}, []int{0}},
		{[]api.Span{span(0, 2), span(3, 5)}, []int{0, 0}},
		{[]api.Span{span(0, 2), span(4, 6)}, []int{0, 0}},
		{[]api.Span{span(0, 2), span(3, 6)}, []int{0, 1}},
		{[]api.Span{span(0, 2), span(8, 11)}, []int{0, 0}},
		{[]api.Span{span(0, 2), span(6, 9)}, []int{0, 1}},
		{[]api.Span{span(0, 2), span(7, 10)}, []int{0, 0}},
		{[]api.Span{span(0, 3), span(7, 10)}, []int{0, 1}},
		{[]api.Span{span(0, 3), span(8, 11)}, []int{0, 0}},
		{[]api.Span{span(0, 4), span(7, 10)}, []int{0, 1}},
		{[]api.Span{span(0, 2), span(3, 5), span(6, 6)}, []int{0, 0, 1}},
		{[]api.Span{span(0, 2), span(3, 5), span(10, 12), span(13, 15)}, []int{0, 0, 0, 0}},
		{[]api.Span{span(0, 2), span(3, 5), span(9, 11), span(13, 15)}, []int{0, 0, 1, 0}},
		{[]api.Span{span(0, 3), span(4, 7), span(8, 11), span(12, 15)}, []int{0, 1, 0, 1}},
		{[]api.Span{span(0, 1), span(4, 5), span(7, 8), span(9, 9)}, []int{0, 0, 0, 1}},
		{[]api.Span{span(0, 1), span(4, 5), span(7, 8), span(14, 15)}, []int{0, 0, 0, 0}},
	} {
		var want [][]int
		for _, hand := range x.want {
			want = append(want, []int{hand})
		}
		holdWatch(t, "in turns", s, []int{1}, x.shifts, want...)
	}
	holdNoWatch(t, "four shifts, three hands", of(20, 6, s.Hands...), []int{1}, span(0, 3), span(4, 7), span(8, 11), span(12, 15))
	holdWatch(t, "four shifts, four hands", of(20, 6, comes(1), comes(1), comes(1), comes(1)), []int{1}, []api.Span{span(0, 3), span(4, 7), span(8, 11), span(12, 15)}, []int{0}, []int{1}, []int{2}, []int{3})
	holdNoWatch(t, "too long", s, []int{1}, span(0, 6))
	holdNoWatch(t, "too many", s, []int{1, 1}, span(0, 3), span(4, 7))
	holdNoWatch(t, "never", of(10, 0, comes(1)), []int{1}, span(0, 0))
	holdWatch(t, "longer than a window", of(10, 10, comes(1)), []int{1}, []api.Span{span(0, 200), span(201, 400)}, []int{0}, []int{0})
	holdNoWatch(t, "all but one tick of a window", of(10, 9, comes(1)), []int{1}, span(0, 4), span(5, 9))
	holdWatch(t, "a window that is not full", of(10, 9, comes(1)), []int{1}, []api.Span{span(0, 4), span(6, 9)}, []int{0}, []int{0})
}

// TestWatchAfterService: the Log counts as well, with each shift, and with shifts together; before them it may be too much.
func TestWatchAfterService(t *testing.T) {
	s := of(10, 6, comes(1, span(-4, -1)), comes(1))
	one := []int{1}
	holdWatch(t, "too much at once", s, one, []api.Span{span(0, 2)}, []int{1})
	holdWatch(t, "just not too much", s, one, []api.Span{span(0, 1)}, []int{0})
	holdWatch(t, "too much together", s, one, []api.Span{span(0, 0), span(3, 4)}, []int{0}, []int{1})
	holdWatch(t, "just not too much together", s, one, []api.Span{span(0, 0), span(3, 3)}, []int{0}, []int{0})
	holdWatch(t, "later", s, one, []api.Span{span(0, 0), span(6, 8)}, []int{0}, []int{0})
	holdWatch(t, "a window with the Log and both", s, one, []api.Span{span(0, 1), span(5, 6)}, []int{0}, []int{1})
	holdWatch(t, "too much before", of(6, 2, comes(1, span(-9, -5))), one, []api.Span{span(0, 1)}, []int{0})
	holdNoWatch(t, "too much before, in one window", of(6, 2, comes(1, span(-9, -4))), one, span(0, 0))
}

// TestWatchLooksAhead: who comes first in a shift may have to leave the seat to another one, because of a later shift.
func TestWatchLooksAhead(t *testing.T) {
	two := []api.Span{span(0, 3), span(4, 7)}
	s := of(10, 6, comes(3), comes(1), comes(2), comes(1, span(-4, -1)))
	holdWatch(t, "one shift each", s, []int{1, 2}, two, []int{1, 0}, []int{3, 2})
	s.Hands[3].Log = nil
	holdWatch(t, "one shift each, and a choice", s, []int{1, 2}, two, []int{1, 0}, []int{3, 2})
	s.Hands = append(s.Hands, comes(2))
	holdWatch(t, "no need for that", s, []int{1, 2}, two, []int{0, 2}, []int{1, 4})
	// Hand 1 is ready only for the second shift.
	s = of(10, 6, comes(1), comes(1, span(-6, -1)))
	holdWatch(t, "the second shift", s, []int{1}, two, []int{0}, []int{1})
	holdNoWatch(t, "nobody for the first shift", s, []int{1, 1}, two...)
}

// tighten leaves hands time for a shift, and not often for a second one in the same window; often there are two seats, for
// which hands have one skill, or both.
func (p *puzzle) tighten(i int) {
	if i%4 == 0 {
		return
	}
	if i%4 > 1 {
		p.seats = []int{1, 2}
		for k := range p.s.Hands {
			p.s.Hands[k].Skills = 1 + (p.s.Hands[k].Skills+i>>k)%3
		}
	}
	for _, x := range p.shifts {
		p.s.Duty = max(p.s.Duty%3, x.High-x.Low+1+i%3)
	}
	p.s.Window = p.s.Duty + 3 + i%11
}

// TestWatchOneByOne holds Watch against all hands in all seats of all shifts, tried one by one.
func TestWatchOneByOne(t *testing.T) {
	none, changed, later := 0, 0, 0
	l := puzzles(9, 800, size{hands: 4, seats: 2, shifts: 3, window: 12, length: 5, skills: 2})
	l = append(l, puzzles(10, 2000, size{hands: 5, seats: 1, shifts: 4, window: 16, length: 5, skills: 2})...)
	l = append(l, puzzles(11, 300, size{hands: 5, seats: 3, shifts: 2, window: 12, length: 5, skills: 2})...)
	l = append(l, puzzles(12, 5000, size{hands: 6, seats: 2, shifts: 2, window: 12, length: 5, skills: 2})...)
	for i, p := range l {
		p.tighten(i)
		all, ok := p.watch(t)
		want, is := p.byWatch()
		if ok != is || !same(all, want) {
			t.Fatalf("Watch of %v = %v, %v, not %v, %v", p, all, ok, want, is)
		}
		if !ok {
			none++
			continue
		}
		if len(all) > 1 && !slices.Equal(all[0], all[1]) {
			changed++
		}
		q := p
		if q.shifts = p.shifts[:min(1, len(p.shifts))]; len(q.shifts) > 0 {
			if first, _ := q.watch(t); !same(first, all[:1]) {
				later++
			}
		}
	}
	if none < 300 || changed < 200 || later < 10 {
		t.Errorf("the puzzles are too much alike: %d, %d, %d", none, changed, later)
	}
}
