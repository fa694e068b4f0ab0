package crews_test

import (
	"slices"
	"testing"

	"coble/api"
)

// holdWhoever asks for the worst of those who do not come.
func holdWhoever(t *testing.T, name string, p puzzle, most, want int, missing ...int) {
	t.Helper()
	p.silent = most
	if tick, l, ok := p.whoever(t); !ok || tick != want || !slices.Equal(l, missing) {
		t.Errorf("%s: Whoever without %d = %d, %v, %v, not %d, %v", name, most, tick, l, ok, want, missing)
	}
}

// TestWhoever is P7.8: the greatest tick without some of the silent hands, and the first of the fewest with which it comes out.
func TestWhoever(t *testing.T) {
	s := of(10, 10, silent(1, 2), hand(1, 0, 9, api.Comes), silent(1, 2), silent(1, 5), hand(1, 0, 0, api.Stays))
	for most, want := range []struct {
		tick    int
		missing []int
	}{{2, nil}, {2, nil}, {5, []int{0, 2}}, {9, []int{0, 2, 3}}, {9, []int{0, 2, 3}}} {
		holdWhoever(t, "one seat", asks(s, 1), most, want.tick, want.missing...)
	}
	for most, want := range []struct {
		tick    int
		missing []int
	}{{2, nil}, {5, []int{0}}, {9, []int{0, 2}}} {
		holdWhoever(t, "two seats", asks(s, 1, 1), most, want.tick, want.missing...)
	}
	for most, want := range []struct {
		tick    int
		missing []int
	}{{5, nil}, {9, []int{0}}} {
		holdWhoever(t, "three seats", asks(s, 1, 1, 1), most, want.tick, want.missing...)
	}
	for _, x := range []struct {
		most  int
		seats []int
	}{{3, []int{1, 1}}, {10, []int{1, 1}}, {2, []int{1, 1, 1}}, {1, []int{1, 1, 1, 1}}, {0, []int{1, 1, 1, 1, 1}}, {0, []int{2}}} {
		p := asks(s, x.seats...)
		p.silent = x.most
		if tick, l, ok := p.whoever(t); ok {
			t.Errorf("Whoever of %v without %d = %d, %v", x.seats, x.most, tick, l)
		}
	}
}

// TestWhoeverIsMissing: the fewest are named, and of those the lowest ones, also if others make it as late.
func TestWhoeverIsMissing(t *testing.T) {
	s := of(10, 10, silent(1, 0), silent(2, 0), hand(3, 0, 6, api.Comes), hand(3, 0, 6, api.Comes), silent(4, 0))
	holdWhoever(t, "nobody", asks(s, 1, 2), 0, 0)
	holdWhoever(t, "one of two", asks(s, 1, 2), 1, 6, 0)
	holdWhoever(t, "one, although it may be two", asks(s, 1, 2), 5, 6, 0)
	holdWhoever(t, "the other one", asks(s, 2, 2), 5, 6)
	holdWhoever(t, "the only one", asks(s, 2), 5, 6, 1)
	holdWhoever(t, "who is not needed", asks(of(10, 10, silent(1, 8), comes(1)), 1), 10, 0)
	holdWhoever(t, "who does not make it sooner", asks(of(10, 10, silent(1, 8), hand(1, 0, 8, api.Comes)), 1), 10, 8)
	holdWhoever(t, "no seats", asks(s), 10, 0)
	holdWhoever(t, "no hands", asks(of(1, 0)), 10, 0)
	all := of(10, 10, slices.Repeat([]api.Hand{silent(1, 0)}, 10)...)
	all.Hands[9] = hand(1, 0, 60, api.Comes)
	for most := range 9 {
		holdWhoever(t, "one of many", asks(all, 1), most, 0)
	}
	holdWhoever(t, "all of them", asks(all, 1), 9, 60, 0, 1, 2, 3, 4, 5, 6, 7, 8)
	holdWhoever(t, "all of them", asks(all, 1), 10, 60, 0, 1, 2, 3, 4, 5, 6, 7, 8)
	holdWhoever(t, "six of them", asks(all, 1, 1, 1, 1), 6, 60, 0, 1, 2, 3, 4, 5)
}

// TestWhoeverOneByOne holds Whoever against all lists of silent hands, tried one by one.
func TestWhoeverOneByOne(t *testing.T) {
	none, late, many, other := 0, 0, 0, 0
	for _, p := range small(8) {
		tick, l, ok := p.whoever(t)
		if want, missing, is := p.byWhoever(); ok != is || tick != want || !slices.Equal(l, missing) {
			t.Fatalf("Whoever of %v = %d, %v, %v, not %d, %v, %v", p, tick, l, ok, want, missing, is)
		}
		if !ok {
			none++
		}
		if tick > p.call {
			late++
		}
		if len(l) > 1 {
			many++
		}
		if len(l) > 0 && l[0] != quiet(p.s)[0] {
			other++
		}
	}
	if none < 300 || late < 300 || many < 10 || other < 10 {
		t.Errorf("the puzzles are too much alike: %d, %d, %d, %d", none, late, many, other)
	}
}
