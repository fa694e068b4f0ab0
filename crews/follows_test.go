package crews_test

import (
	"math/rand/v2"
	"slices"
	"testing"
	"time"

	"coble/api"
)

// TestNobodyIsTooTired is P7.10: Spare can be served, one tick more cannot, unless it is MaxShift.
func TestNobodyIsTooTired(t *testing.T) {
	for _, p := range large(10, 60) {
		for i := range p.s.Hands {
			n := mustSpare(t, p.s, i, p.tick)
			if n > 0 && !mayServe(p.s, i, span(p.tick, p.tick+n-1)) || n < 40 && mayServe(p.s, i, span(p.tick, p.tick+n)) || n < 0 || n > 40 {
				t.Errorf("Spare(%v, %d, %d) = %d", p.s, i, p.tick, n)
			}
		}
	}
}

// TestSeatsAreFilled is P7.10 and P7.11 of Muster: the hands are not too tired, have the skills, come, and are surely ready.
func TestSeatsAreFilled(t *testing.T) {
	n := 0
	for _, p := range large(11, 1000) {
		tick, who, ok := p.muster(t)
		if !ok {
			continue
		}
		if len(who) > 1 {
			n++
		}
		if tick < p.call || tick > p.call+100 || len(who) != len(p.seats) || !fill(p.s, p.seats, who) {
			t.Errorf("Muster of %v = %d, %v", p, tick, who)
		}
		for _, i := range who {
			if h := p.s.Hands[i]; h.Answer != api.Comes || p.call+h.Away.High > tick || !mayServe(p.s, i, span(tick, tick+p.length-1)) {
				t.Errorf("Muster of %v = %d, %v: not %d", p, tick, who, i)
			}
		}
	}
	if n < 150 {
		t.Errorf("there are only %d crews", n)
	}
}

// TestShiftsAreFilled is P7.10 and P7.11 of Watch: no hand is too tired with all its shifts, and all have the skills.
func TestShiftsAreFilled(t *testing.T) {
	n := 0
	for i, p := range large(12, 1000) {
		p.tighten(i)
		p.s.Window = min(p.s.Window, 100)
		p.s.Duty = min(p.s.Duty, p.s.Window)
		l, ok := p.watch(t)
		if !ok {
			continue
		}
		if len(l) > 1 && len(p.seats) > 0 {
			n++
		}
		for _, who := range l {
			if len(who) != len(p.seats) || !fill(p.s, p.seats, who) {
				t.Errorf("Watch of %v = %v", p, l)
			}
		}
		for hand := range p.s.Hands {
			if set := shiftsOf(l, hand); !mayServe(p.s, hand, p.some(set)...) {
				t.Errorf("Watch of %v = %v: not %d", p, l, hand)
			}
		}
	}
	if n < 100 {
		t.Errorf("there are only %d watches", n)
	}
}

// isThere returns who can be in a crew that is complete at a tick.
func (p puzzle) isThere(tick int) []bool {
	var l []bool
	for i, h := range p.s.Hands {
		l = append(l, h.Answer == api.Comes && p.call+h.Away.High <= tick && mayServe(p.s, i, span(tick, tick+p.length-1)))
	}
	return l
}

// canSit reports whether hands can sit in the seats from one on.
func (p puzzle) canSit(seat int, there []bool) bool {
	if seat == len(p.seats) {
		return true
	}
	for i, h := range p.s.Hands {
		if !there[i] || h.Skills&p.seats[seat] != p.seats[seat] {
			continue
		}
		there[i] = false
		ok := p.canSit(seat+1, there)
		if there[i] = true; ok {
			return true
		}
	}
	return false
}

// TestNoSooner is P7.12: no crew is complete at a tick before that of Muster, and none at all if there is none.
func TestNoSooner(t *testing.T) {
	late, none := 0, 0
	for _, p := range large(13, 200) {
		tick, _, ok := p.muster(t)
		if !ok {
			tick, none = p.call+101, none+1
		}
		if tick > p.call {
			late++
		}
		for sooner := p.call; sooner < tick; sooner += 1 + (tick-sooner)/3 {
			if p.canSit(0, p.isThere(sooner)) {
				t.Errorf("Muster of %v = %d, %v, but %d is sooner", p, tick, ok, sooner)
			}
		}
	}
	if late < 80 || none < 40 {
		t.Errorf("the puzzles are too much alike: %d, %d", late, none)
	}
}

// notLater holds that a crew is complete no later than another one.
func notLater(t *testing.T, name string, p puzzle, tick int, ok bool) {
	t.Helper()
	if n, who, is := p.muster(t); ok && (!is || n > tick) {
		t.Errorf("%s: Muster of %v = %d, %v, %v, but before %d", name, p, n, who, is, tick)
	}
}

// TestMoreHands is P7.12: with more hands, fewer skills asked for, or a lesser length, the crew is complete no later.
func TestMoreHands(t *testing.T) {
	r := rand.New(rand.NewPCG(12, 12))
	n := 0
	for _, p := range large(14, 1000) {
		tick, _, ok := p.muster(t)
		if ok {
			n++
		}
		more := p
		more.s = copied(p.s)
		if len(more.s.Hands) < 10 {
			more.s.Hands = slices.Insert(more.s.Hands, r.IntN(len(more.s.Hands)+1), hand(r.IntN(256), 0, r.IntN(61), r.IntN(3), span(-5, -3)))
			notLater(t, "more hands", more, tick, ok)
		}
		fewer := p
		fewer.seats = slices.Clone(p.seats)
		for i := range fewer.seats {
			fewer.seats[i] &= r.IntN(256) | r.IntN(256)
		}
		notLater(t, "fewer skills", fewer, tick, ok)
		lesser := p
		lesser.length = 1 + r.IntN(p.length)
		notLater(t, "a lesser length", lesser, tick, ok)
	}
	if n < 300 {
		t.Errorf("there are only %d crews", n)
	}
}

// TestWhoeverDoesNotCome is P7.13: without any of the silent hands, up to the number, the crew is complete at the latest at
// that tick, and at that tick without those who are missing; with a greater number it is not sooner.
func TestWhoeverDoesNotCome(t *testing.T) {
	n, missed := 0, 0
	for _, p := range large(15, 600) {
		tick, missing, ok := p.whoever(t)
		if !ok {
			continue
		}
		n++
		if len(missing) > 0 {
			missed++
		}
		for _, l := range subsets(quiet(p.s), p.silent) {
			notLater(t, "whoever does not come", p.without(l), tick, true)
		}
		if at, _, ok := p.without(missing).muster(t); !ok || at != tick || len(missing) > p.silent {
			t.Errorf("Whoever of %v = %d, %v, but %d, %v without them", p, tick, missing, at, ok)
		}
		for p.silent++; p.silent <= 10; p.silent++ {
			more, _, ok := p.whoever(t)
			if !ok {
				break
			}
			if more < tick {
				t.Errorf("Whoever of %v = %d without %d, but before %d", p, more, p.silent, tick)
			}
			tick = more
		}
	}
	if n < 150 || missed < 30 {
		t.Errorf("the puzzles are too much alike: %d, %d", n, missed)
	}
}

// TestWhatIsLacking is P7.15 on larger stations, and Lacking has an answer just where Muster has none.
func TestWhatIsLacking(t *testing.T) {
	n := 0
	for _, p := range large(16, 1000) {
		_, _, is := p.muster(t)
		l, ok := p.lacking(t)
		if ok == is || !slices.IsSorted(l) {
			t.Errorf("Lacking of %v = %v, %v", p, l, ok)
		}
		if ok {
			holdLacking(t, p, l)
			n++
		}
	}
	if n < 300 {
		t.Errorf("there are only %d stations without a crew", n)
	}
}

// TestLargest: all functions end soon on stations at the limits, also where there is no crew.
func TestLargest(t *testing.T) {
	start := time.Now()
	all := of(100, 50, slices.Repeat([]api.Hand{hand(255, 0, 60, api.Silent, dots(10)...)}, 10)...)
	for i := range all.Hands {
		all.Hands[i].Skills, all.Hands[i].Away = 255-128*min(i, 1), span(0, 6*i)
	}
	tired := copied(all)
	tired.Hands[0].Log = []api.Span{span(-60, -1)}
	shifts := []api.Span{span(0, 20), span(30, 50), span(60, 80), span(90, 110)}
	for _, s := range []api.Station{all, tired} {
		for _, seats := range [][]int{{0, 0, 0, 0, 0}, {1, 2, 4, 8, 128}, {1, 1, 1, 1, 256 - 128}, {127, 127, 127, 128, 128}} {
			p := puzzle{s: s, call: 100, length: 10, silent: 10, seats: seats, shifts: shifts}
			p.whoever(t)
			p.silent = 5
			p.whoever(t)
			p.watch(t)
			p.s = answered(s, api.Comes, quiet(s)...)
			p.muster(t)
			p.lacking(t)
		}
	}
	if l, ok := hard().watch(t); ok {
		t.Errorf("Watch where there is none = %v", l)
	}
	if d := time.Since(start); d > 10*time.Second {
		t.Errorf("it took %v", d)
	}
}

// hard is a watch of which it shows late that there is none: each shift can be filled in many ways, but not all of them.
func hard() puzzle {
	s := of(64, 36,
		comes(255, span(-77, -60)), comes(80, span(-63, -40), span(-30, -17), span(-14, -10)), comes(152), comes(253, span(-55, -32), span(-26, -11)),
		comes(243, span(-93, -84), span(-80, -76), span(-69, -61), span(-54, -46), span(-41, -37), span(-32, -21), span(-14, -7)),
		comes(60, span(-61, -51), span(-44, -42), span(-33, -20)), comes(255, span(-83, -59)), comes(155), comes(239, span(-23, -5)), comes(255),
	)
	return puzzle{s: s, seats: []int{1, 8, 160, 2, 4}, shifts: []api.Span{span(27, 39), span(60, 66), span(87, 103), span(127, 146)}}
}
