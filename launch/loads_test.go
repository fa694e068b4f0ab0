package launch_test

import (
	"math"
	"math/rand/v2"
	"slices"
	"testing"

	"coble/api"
	"coble/launch"
)

// TestBoard is P5.6: the fewest boats, and of those the first list; not the greatest boats.
func TestBoard(t *testing.T) {
	for i, x := range []struct {
		seats  []int
		people int
		want   []int
	}{
		{nil, 0, nil}, {[]int{6}, 0, nil}, {[]int{0}, 0, nil}, {[]int{6}, 1, []int{0}}, {[]int{6}, 6, []int{0}}, {[]int{0, 6}, 1, []int{1}},
		{[]int{6, 6}, 6, []int{0}}, {[]int{6, 40}, 6, []int{0}}, {[]int{6, 40}, 7, []int{1}}, {[]int{5, 5, 10}, 10, []int{2}}, {[]int{5, 5, 9}, 10, []int{0, 1}},
		{[]int{1, 9, 5, 5}, 10, []int{0, 1}}, {[]int{1, 8, 5, 5}, 10, []int{1, 2}}, {[]int{4, 3, 3, 2, 1}, 9, []int{0, 1, 2}}, {[]int{4, 3, 3, 2, 1}, 10, []int{0, 1, 2}},
		{[]int{4, 3, 3, 2, 1}, 11, []int{0, 1, 2, 3}}, {[]int{4, 3, 3, 2, 1}, 13, []int{0, 1, 2, 3, 4}}, {[]int{0, 0, 7, 0, 7}, 14, []int{2, 4}},
		{slices.Repeat([]int{40}, 10), 400, []int{0, 1, 2, 3, 4, 5, 6, 7, 8, 9}}, {slices.Repeat([]int{40}, 10), 161, []int{0, 1, 2, 3, 4}},
	} {
		if l := mustBoard(t, rafts(x.seats...), x.people); !slices.Equal(l, x.want) {
			t.Errorf("%d: Board = %v", i, l)
		}
	}
	for i, x := range []struct {
		seats  []int
		people int
	}{{nil, 1}, {[]int{6}, 7}, {[]int{0, 0}, 1}, {slices.Repeat([]int{40}, 10), 401}, {[]int{1}, math.MaxInt}} {
		if l, e := launch.Board(rafts(x.seats...), x.people); e != api.ErrNone || len(l) > 0 {
			t.Errorf("%d: Board = %v, %d", i, l, e)
		}
	}
}

// TestBoardOneByOne is P5.6 and P5.12: Board against all lists of boats.
func TestBoardOneByOne(t *testing.T) {
	r := rand.New(rand.NewPCG(7, 7))
	for range 600 {
		var seats []int
		for range r.IntN(11) {
			seats = append(seats, r.IntN(1+r.IntN(41)))
		}
		people := r.IntN(1 + r.IntN(8)*len(seats)*4)
		in := func(l []int) int {
			n := 0
			for _, i := range l {
				n += seats[i]
			}
			return n
		}
		want, ok := firstList(len(seats), func(l []int) bool { return in(l) >= people })
		l, e := launch.Board(rafts(seats...), people)
		if ok != (e == api.OK) || !ok && e != api.ErrNone || !slices.Equal(l, want) || ok && in(l) < people {
			t.Fatalf("Board of %v, %d = %v, %d, not %v, %v", seats, people, l, e, want, ok)
		}
	}
}

// TestRights is P5.7: the greatest weights for what is sure, the least ones for what may be; up to the Moment.
func TestRights(t *testing.T) {
	for i, x := range []struct {
		moment    int
		l         []api.Load
		sure, may bool
	}{
		{0, nil, true, true}, {0, []api.Load{load(0, 0, 50)}, true, true}, {0, []api.Load{load(1000, 1000, 0)}, true, true}, {0, []api.Load{load(0, 1, 1)}, false, true},
		{0, []api.Load{load(1, 1, 1)}, false, false}, {1000, []api.Load{load(20, 50, 20)}, true, true}, {999, []api.Load{load(20, 50, 20)}, false, true},
		{400, []api.Load{load(20, 50, 20)}, false, true}, {399, []api.Load{load(20, 50, 20)}, false, false},
		{1600, []api.Load{load(20, 50, 20), load(10, 20, 30)}, true, true}, {1599, []api.Load{load(20, 50, 20), load(10, 20, 30)}, false, true},
		{700, []api.Load{load(20, 50, 20), load(10, 20, 30)}, false, true}, {699, []api.Load{load(20, 50, 20), load(10, 20, 30)}, false, false},
		{500000, slices.Repeat([]api.Load{load(0, 1000, 50)}, 10), true, true}, {499999, slices.Repeat([]api.Load{load(1000, 1000, 50)}, 10), false, false},
	} {
		b := class()
		b.Moment = x.moment
		if sure, may := mustRights(t, b, x.l); sure != x.sure || may != x.may {
			t.Errorf("%d: Rights = %v, %v", i, sure, may)
		}
	}
}

// TestShed is P5.8: the fewest loads, and of those lists the first one; not the heaviest loads.
func TestShed(t *testing.T) {
	weights := func(l ...int) []api.Load {
		var loads []api.Load
		for _, n := range l {
			loads = append(loads, load(0, n, 2))
		}
		return loads
	}
	for i, x := range []struct {
		moment int
		l      []api.Load
		want   []int
	}{
		{0, nil, nil}, {0, weights(0), nil}, {20, weights(10), nil}, {19, weights(10), []int{0}}, {0, weights(10), []int{0}}, {20, weights(10, 10), []int{0}},
		{20, weights(1, 10), []int{0}}, {20, weights(1, 11), []int{1}}, {20, weights(3, 5, 7), []int{1}}, {20, weights(3, 5, 8), []int{2}}, {10, weights(3, 5, 7), []int{0, 2}},
		{10, weights(2, 5, 3, 4), []int{1, 3}}, {0, weights(1, 0, 1), []int{0, 2}}, {0, weights(1, 1, 1), []int{0, 1, 2}}, {4, weights(1, 1, 1), []int{0}},
		{10, []api.Load{load(0, 0, 50), load(5, 6, 2), load(1, 1000, 0)}, []int{1}},
	} {
		b := class()
		b.Moment = x.moment
		if l := mustShed(t, b, x.l); !slices.Equal(l, x.want) {
			t.Errorf("%d: Shed = %v", i, l)
		}
	}
}

// someLoads returns loads that are often too much for a boat, and the boat.
func someLoads(r *rand.Rand) (api.Class, []api.Load) {
	var l []api.Load
	for range r.IntN(9) {
		low := r.IntN(20)
		l = append(l, load(low, low+r.IntN(20), r.IntN(10)))
	}
	b := class()
	b.Moment = r.IntN(1 + 100*len(l))
	return b, l
}

// without returns the loads that are left.
func without(l []api.Load, away []int) []api.Load {
	var left []api.Load
	for i, x := range l {
		if !slices.Contains(away, i) {
			left = append(left, x)
		}
	}
	return left
}

// weigh returns what loads of these weights heel a boat by.
func weigh(l []api.Load, weight func(s api.Span) int) int {
	n := 0
	for _, x := range l {
		n += weight(x.Weight) * x.Height
	}
	return n
}

// TestShedOneByOne is P5.7, P5.8 and P5.13: Shed against all lists of loads, and with any weights within their spans.
func TestShedOneByOne(t *testing.T) {
	r := rand.New(rand.NewPCG(8, 8))
	kinds := map[[2]bool]int{}
	for range 800 {
		b, l := someLoads(r)
		sure, may := mustRights(t, b, l)
		most := func(s api.Span) int { return s.High }
		least := func(s api.Span) int { return s.Low }
		if sure != (weigh(l, most) <= b.Moment) || may != (weigh(l, least) <= b.Moment) {
			t.Fatalf("Rights(%v, %v) = %v, %v", b, l, sure, may)
		}
		kinds[[2]bool{sure, may}]++
		any := weigh(l, func(s api.Span) int { return s.Low + r.IntN(s.High-s.Low+1) })
		if sure && any > b.Moment || !may && any <= b.Moment {
			t.Fatalf("Rights(%v, %v) = %v, %v, but %d", b, l, sure, may, any)
		}
		want, _ := firstList(len(l), func(away []int) bool { return weigh(without(l, away), most) <= b.Moment })
		away := mustShed(t, b, l)
		if left, _ := mustRights(t, b, without(l, away)); !slices.Equal(away, want) || !left || sure != (len(away) == 0) {
			t.Fatalf("Shed(%v, %v) = %v, not %v", b, l, away, want)
		}
	}
	if len(kinds) != 3 {
		t.Errorf("the loads are too much alike: %v", kinds)
	}
}
