package crews_test

import (
	"testing"

	"coble/api"
)

// TestSpare is P7.2: up to Duty ticks without a Log, or up to MaxShift if that is less, or if all ticks of a window may be served.
func TestSpare(t *testing.T) {
	for _, x := range []struct{ window, duty, want int }{
		{1, 0, 0}, {1, 1, 40}, {10, 0, 0}, {10, 1, 1}, {10, 9, 9}, {10, 10, 40}, {41, 39, 39}, {41, 40, 40}, {41, 41, 40}, {40, 39, 39}, {100, 39, 39}, {100, 40, 40}, {100, 99, 40}, {100, 100, 40},
	} {
		for _, tick := range []int{0, 7, 360} {
			if n := mustSpare(t, of(x.window, x.duty, comes(0)), 0, tick); n != x.want {
				t.Errorf("Spare with %d of %d from %d = %d", x.duty, x.window, tick, n)
			}
		}
	}
}

// TestSpareAfterService: what is in the Log counts as long as it is in the same window.
func TestSpareAfterService(t *testing.T) {
	for _, x := range []struct {
		window, duty int
		log          []api.Span
		want         []int // from the ticks 0, 1, 2 and so on
	}{
		{4, 2, []api.Span{span(-1, -1)}, []int{1, 1, 2, 2}},
		{4, 2, []api.Span{span(-2, -1)}, []int{0, 0, 2, 2}},
		{4, 2, []api.Span{span(-3, -2)}, []int{0, 2, 2}},
		{4, 2, []api.Span{span(-4, -3)}, []int{2, 2}},
		{4, 2, []api.Span{span(-3, -3), span(-1, -1)}, []int{0, 1, 2}},
		{5, 3, []api.Span{span(-4, -4), span(-1, -1)}, []int{2, 2, 3}},
		{5, 3, []api.Span{span(-4, -4), span(-2, -2)}, []int{2, 3}},
		{5, 5, []api.Span{span(-200, -1)}, []int{40, 40}},
		{5, 4, []api.Span{span(-200, -1)}, []int{0, 4, 4}},
		{1, 1, []api.Span{span(-1, -1)}, []int{40}},
		{1, 0, []api.Span{span(-1, -1)}, []int{0, 0}},
	} {
		for tick, want := range x.want {
			if n := mustSpare(t, of(x.window, x.duty, comes(0), comes(0, x.log...)), 1, tick); n != want {
				t.Errorf("Spare with %d of %d after %v from %d = %d, not %d", x.duty, x.window, x.log, tick, n, want)
			}
		}
	}
}

// TestSpareAfterTooMuch: a Log with more than Duty ticks in a window leaves all ticks that are in no window with them.
func TestSpareAfterTooMuch(t *testing.T) {
	for _, x := range []struct {
		log  []api.Span
		want []int // from the ticks 0, 1, 2 and so on
	}{
		{[]api.Span{span(-9, -5)}, []int{2, 2}},
		{[]api.Span{span(-9, -4)}, []int{0, 2, 2}},
		{[]api.Span{span(-9, -1)}, []int{0, 0, 0, 0, 2, 2}},
		{[]api.Span{span(-9, -7), span(-4, -4)}, []int{1, 2}},
		{[]api.Span{span(-9, -6), span(-1, -1)}, []int{1, 1, 1, 1, 2}},
	} {
		for tick, want := range x.want {
			if n := mustSpare(t, of(6, 2, comes(0, x.log...)), 0, tick); n != want {
				t.Errorf("Spare with two of six after %v from %d = %d, not %d", x.log, tick, n, want)
			}
		}
	}
}

// TestSpareIsOfNoAnswer: neither the Answer, nor the skills, nor the way to the station count.
func TestSpareIsOfNoAnswer(t *testing.T) {
	for answer := range 3 {
		for _, away := range []int{0, 60} {
			if n := mustSpare(t, of(10, 6, hand(answer, 0, away, answer)), 0, 0); n != 6 {
				t.Errorf("Spare of the answer %d = %d", answer, n)
			}
		}
	}
}

// TestSpareOneByOne holds Spare against all windows of small stations, tried one by one.
func TestSpareOneByOne(t *testing.T) {
	found := map[int]int{}
	for _, p := range small(2)[:500] {
		for _, tick := range []int{0, 1, p.tick} {
			want := 0
			for want < 40 && mayServe(p.s, p.hand, span(tick, tick+want)) {
				want++
			}
			if n := mustSpare(t, p.s, p.hand, tick); n != want {
				t.Fatalf("Spare(%v, %d, %d) = %d, not %d", p.s, p.hand, tick, n, want)
			}
			found[want]++
		}
	}
	for _, want := range []int{0, 1, 2, 3, 4, 5, 6, 40} {
		if found[want] < 15 {
			t.Errorf("%d comes out %d times only", want, found[want])
		}
	}
}
