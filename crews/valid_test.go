package crews_test

import (
	"math"
	"slices"
	"testing"

	"coble/api"
	"coble/crews"
)

// with returns the station S with a change.
func with(change func(s *api.Station)) api.Station {
	s := station()
	change(&s)
	return s
}

// withHand returns the station S with a change of the hand 1, which has a Log.
func withHand(change func(h *api.Hand)) api.Station {
	return with(func(s *api.Station) { change(&s.Hands[1]) })
}

func withLog(log ...api.Span) api.Station {
	return withHand(func(h *api.Hand) { h.Log = log })
}

// dots are so many spans of one tick each, the last one of the tick -1, with a tick between each two.
func dots(n int) []api.Span {
	var l []api.Span
	for i := range n {
		tick := 2*(i-n) + 1
		l = append(l, span(tick, tick))
	}
	return l
}

// goodStations are valid, some of them only just.
func goodStations() []api.Station {
	l := []api.Station{station(), {Window: 1}, {Window: 100}, {Window: 100, Duty: 100, Hands: make([]api.Hand, 10)}}
	for _, x := range [][2]int{{1, 0}, {1, 1}, {100, 0}, {100, 99}, {100, 100}, {50, 50}, {6, 6}} {
		l = append(l, with(func(s *api.Station) { s.Window, s.Duty = x[0], x[1] }))
	}
	for _, n := range []int{0, 1, 128, 255} {
		l = append(l, withHand(func(h *api.Hand) { h.Skills = n }))
	}
	for _, away := range []api.Span{span(0, 0), span(0, 60), span(60, 60), span(59, 60)} {
		l = append(l, withHand(func(h *api.Hand) { h.Away = away }))
	}
	for _, n := range []int{0, 1, 2} {
		l = append(l, withHand(func(h *api.Hand) { h.Answer = n }))
	}
	for _, n := range []int{0, 1, 9, 10} {
		l = append(l, withLog(dots(n)...))
	}
	return append(l, withLog(span(-200, -1)), withLog(span(-200, -200)), withLog(span(-1, -1)), withLog(span(-200, -3), span(-2, -2), span(-1, -1)))
}

// badStations are not valid, most of them only just.
func badStations() []api.Station {
	l := []api.Station{{}, {Hands: station().Hands}, {Window: 1, Hands: make([]api.Hand, 11)}, with(func(s *api.Station) { s.Hands = slices.Repeat(s.Hands[:1], 11) })}
	for _, x := range [][2]int{{0, 0}, {-1, 0}, {101, 6}, {math.MinInt, 0}, {math.MaxInt, 0}, {10, 11}, {10, -1}, {5, 6}, {1, 2}, {100, 101}, {10, math.MinInt}, {10, math.MaxInt}} {
		l = append(l, with(func(s *api.Station) { s.Window, s.Duty = x[0], x[1] }))
	}
	for _, n := range []int{-1, 256, 257, 512, math.MinInt, math.MaxInt} {
		l = append(l, withHand(func(h *api.Hand) { h.Skills = n }))
	}
	for _, away := range []api.Span{span(-1, 0), span(0, 61), span(61, 61), span(1, 0), span(60, 59), span(-1, -1), span(0, -1), span(math.MinInt, 1), span(0, math.MaxInt), span(math.MaxInt, math.MinInt)} {
		l = append(l, withHand(func(h *api.Hand) { h.Away = away }))
	}
	for _, n := range []int{-1, 3, math.MinInt, math.MaxInt} {
		l = append(l, withHand(func(h *api.Hand) { h.Answer = n }))
	}
	for _, x := range []api.Span{span(-201, -200), span(-201, -201), span(-1, 0), span(0, 0), span(3, 4), span(-1, -2), span(-200, -201), span(math.MinInt, -1), span(-1, math.MaxInt), span(math.MaxInt, math.MinInt)} {
		l = append(l, withLog(x))
	}
	for _, x := range [][]api.Span{{span(-9, -5), span(-5, -4)}, {span(-9, -5), span(-9, -5)}, {span(-5, -5), span(-5, -5)}, {span(-4, -1), span(-9, -6)}, {span(-9, -5), span(-8, -6)}, {span(-9, -8), span(-4, -2), span(-6, -5)}, {span(-9, -8), span(-7, -7), span(-7, -6)}, dots(11), {span(-9, -5), span(-3, 0)}, {span(-9, -5), span(-2, -3)}} {
		l = append(l, withLog(x...))
	}
	return l
}

// TestCheck is P7.1: a station is valid if all that the chapter names is so, and not otherwise.
func TestCheck(t *testing.T) {
	for _, s := range goodStations() {
		if e := crews.Check(s); e != api.OK {
			t.Errorf("Check(%v) = %d", s, e)
		}
	}
	for _, s := range badStations() {
		if e := crews.Check(s); e != api.ErrStation {
			t.Errorf("Check(%v) = %d", s, e)
		}
	}
}

// TestCheckLooksAtAllHands: whichever hand is not valid, the station is not.
func TestCheckLooksAtAllHands(t *testing.T) {
	for n := range 10 {
		for i := range n + 1 {
			s := of(10, 6, slices.Repeat([]api.Hand{comes(1)}, n+1)...)
			if e := crews.Check(s); e != api.OK {
				t.Errorf("Check of %d hands = %d", n+1, e)
			}
			s.Hands[i].Answer = 3
			if e := crews.Check(s); e != api.ErrStation {
				t.Errorf("Check of %d hands, %d of them not valid = %d", n+1, i, e)
			}
		}
	}
}

// TestJustValid: what is asked may be all that the chapter allows, to its limits.
func TestJustValid(t *testing.T) {
	s := of(100, 100, comes(255), comes(255), comes(255), comes(255), comes(255))
	for _, tick := range []int{0, 1, 359, 360} {
		for hand := range s.Hands {
			if n := mustSpare(t, s, hand, tick); n != 40 {
				t.Errorf("Spare of %d from %d = %d", hand, tick, n)
			}
		}
	}
	for _, call := range []int{0, 100} {
		for _, length := range []int{1, 40} {
			for _, seats := range [][]int{nil, {0}, {255}, {255, 0, 128, 1, 255}} {
				for _, most := range []int{0, 10} {
					p := puzzle{s: s, call: call, length: length, silent: most, seats: seats}
					if tick, _, ok := p.muster(t); !ok || tick != call {
						t.Errorf("Muster of %v = %d, %v", p, tick, ok)
					}
					if _, ok := p.lacking(t); ok {
						t.Errorf("Lacking of %v", p)
					}
					if tick, l, ok := p.whoever(t); !ok || tick != call || len(l) > 0 {
						t.Errorf("Whoever of %v = %d, %v, %v", p, tick, l, ok)
					}
				}
			}
		}
	}
	for _, shifts := range [][]api.Span{nil, {span(0, 0)}, {span(400, 400)}, {span(0, 400)}, {span(0, 9), span(10, 10), span(11, 399), span(400, 400)}} {
		if l, ok := (puzzle{s: s, seats: []int{255, 0, 128, 1, 255}, shifts: shifts}).watch(t); !ok || len(l) != len(shifts) {
			t.Errorf("Watch of %v = %v, %v", shifts, l, ok)
		}
	}
}

// goodPages are valid pages of three hands, some of them only just.
func goodPages() [][]api.Page {
	return [][]api.Page{
		nil, pages(), {page(-200, 0, 1)}, {page(400, 2, 3)}, {page(-200, 1, 2), page(-200, 1, 2), page(400, 1, 1), page(400, 0, 3)}, {page(-1, 0, 1), page(0, 0, 1)},
		twoHundred(page(7, 2, 1)), {page(5, 1, 2), page(5, 1, 1), page(5, 0, 3)},
	}
}

func twoHundred(p api.Page) []api.Page { return slices.Repeat([]api.Page{p}, 200) }

// badPages are pages of three hands that are not valid, most of them only just.
func badPages() [][]api.Page {
	l := [][]api.Page{{page(2, 0, 1), page(1, 0, 1)}, {page(-1, 0, 1), page(-2, 2, 1)}, {page(0, 0, 1), page(3, 1, 1), page(2, 2, 1)}, {page(0, 0, 1), page(-1, 1, 1), page(2, 2, 1)}, {page(5, 0, 1), page(6, 0, 2), page(5, 0, 3), page(6, 0, 1)}, {page(400, 0, 1), page(-200, 0, 1)}}
	for _, n := range []int{-201, 401, math.MinInt, math.MaxInt} {
		l = append(l, []api.Page{page(n, 0, 1)})
	}
	l = append(l, []api.Page{page(1, 0, 1), page(401, 0, 1)}, []api.Page{page(-201, 0, 1), page(1, 0, 1)})
	for _, n := range []int{-1, 3, 4, 10, math.MinInt, math.MaxInt} {
		l = append(l, []api.Page{page(1, n, 1)}, []api.Page{page(1, 0, 1), page(1, n, 2)})
	}
	for _, n := range []int{-1, 0, 4, 5, math.MinInt, math.MaxInt} {
		l = append(l, []api.Page{page(1, 0, n)}, []api.Page{page(1, n, 0), page(1, 0, 1)}, append(pages(), page(9, 0, n)))
	}
	return l
}

// badDrills are drills of three hands that are not valid, most of them only just.
func badDrills() [][]api.Drill {
	var l [][]api.Drill
	for _, n := range []int{-201, 401, math.MinInt, math.MaxInt} {
		l = append(l, []api.Drill{drill(n, 0, 1)}, []api.Drill{drill(n, 0, 1), drill(n, 0, 1)})
	}
	for _, n := range []int{-1, 3, 4, 10, math.MinInt, math.MaxInt} {
		l = append(l, []api.Drill{drill(1, n, 1)}, []api.Drill{drill(1, 0, 1), drill(1, n, 1)})
	}
	for _, n := range []int{-1, 8, 9, math.MinInt, math.MaxInt} {
		l = append(l, []api.Drill{drill(1, 0, n)}, append(drills(), drill(9, 0, n)))
	}
	return l
}

// TestValidPages: ErrPage unless each page, or drill, is of a hand, a kind (or a skill) and a tick; pages are in order.
func TestValidPages(t *testing.T) {
	for _, l := range goodPages() {
		mustAnswers(t, 3, l, 0)
		mustAgain(t, 3, l, 0, 1)
	}
	for _, l := range badPages() {
		if answers, e := crews.Answers(3, l, 0); e != api.ErrPage || len(answers) > 0 {
			t.Errorf("Answers of %v = %v, %d", l, answers, e)
		}
		if again, e := crews.Again(3, l, 0, 1); e != api.ErrPage || len(again) > 0 {
			t.Errorf("Again of %v = %v, %d", l, again, e)
		}
	}
	for _, l := range [][]api.Drill{nil, drills(), {drill(-200, 0, 0), drill(400, 2, 7)}, {drill(3, 1, 1), drill(3, 1, 1), drill(3, 0, 7)}, slices.Repeat([]api.Drill{drill(0, 2, 7)}, 200)} {
		mustCurrent(t, 3, l, eight(400), 0)
	}
	for _, l := range badDrills() {
		if sets, e := crews.Current(3, l, eight(10), 0); e != api.ErrPage || len(sets) > 0 {
			t.Errorf("Current of %v = %v, %d", l, sets, e)
		}
	}
}

// TestValidQuestions: hands, ticks and numbers of those with pages may be all that the chapter allows, to the limits.
func TestValidQuestions(t *testing.T) {
	for _, hands := range []int{1, 2, 9, 10} {
		for _, tick := range []int{-200, -199, 0, 399, 400} {
			l := []api.Page{page(-200, hands-1, 1), page(400, 0, 2)}
			mustAnswers(t, hands, l, tick)
			for _, every := range []int{1, 2, 99, 100} {
				mustAgain(t, hands, l, tick, every)
			}
			for _, good := range []int{0, 1, 399, 400} {
				mustCurrent(t, hands, []api.Drill{drill(-200, hands-1, 7), drill(400, 0, 0)}, eight(good), tick)
			}
		}
	}
}
