package lanes_test

import (
	"slices"
	"testing"

	"coble/api"
)

// TestTwo is P6.2: the ticks in which two units clash, level by level and with tows.
func TestTwo(t *testing.T) {
	for _, x := range []struct {
		name string
		a, b api.Leg
		want int
	}{
		{"in one cell from the start", plane(0, 1, 4, 4), plane(0, 1, 4, 5), 0},
		{"in one cell at the end of both", plane(0, 1, 4, 5), plane(0, 1, 6, 5), 1},
		{"in one cell in the last tick", plane(0, 1, 4, 4, 5, 5, 6), plane(4, 1, 6), 4},
		{"at the end of one", plane(0, 1, 4, 5, 6), plane(2, 1, 6, 7), 2},
		{"after the end of one", plane(0, 1, 4, 5, 6), plane(3, 1, 6, 7), -1},
		{"before the start of one", plane(2, 1, 5), plane(0, 1, 6, 5, 4), -1},
		{"in one cell in other ticks", plane(0, 1, 4, 5, 6), plane(0, 1, 5, 6, 7), -1},
		{"again and again", plane(0, 1, 4, 5, 5, 6), plane(0, 1, 9, 5, 6, 6), 1},
		{"at two levels", plane(0, 1, 4, 4), plane(0, 2, 4, 4), -1},
		{"under an aircraft", boat(0, 5, 5), plane(0, 1, 5, 5), -1},
		{"two boats", boat(0, 5, 5), boat(1, 5), 1},
		{"boats of other draughts", boat(0, 5, 5), api.Leg{At: 1, Draught: 1, Cells: []int{5}}, 1},
		{"the highest level", plane(0, 3, 4), plane(0, 3, 4), 0},
		{"changing places", plane(0, 1, 4, 5), plane(0, 1, 5, 4), 1},
		{"changing places later", plane(0, 2, 4, 4, 5), plane(1, 2, 5, 4), 2},
		{"changing places one after the other", plane(0, 1, 4, 5, 5), plane(0, 1, 6, 6, 5), 2},
		{"changing places in two ticks", plane(0, 1, 4, 5, 5), plane(0, 1, 5, 9, 4), -1},
		{"changing places at two levels", plane(0, 1, 4, 5), plane(0, 3, 5, 4), -1},
		{"one begins where the other one was", plane(0, 1, 4, 5), plane(1, 1, 4), -1},
		{"one begins where the other one was, and that one where it is not", plane(0, 1, 4, 5), plane(1, 1, 9, 4), -1},
		{"one behind the other", plane(0, 1, 4, 5, 6), plane(0, 1, 8, 4, 5), -1},
		{"in the cell that the other one leaves", boat(0, 5, 10), boat(0, 4, 5), -1},
		{"from one cell to two", plane(0, 1, 5, 4), plane(0, 1, 5, 6), 0},
	} {
		holdTwo(t, x.name, x.a, x.b, x.want)
	}
}

// TestTows is P6.2: a unit with a tow also occupies the cell in which it was, if that belongs to its leg.
func TestTows(t *testing.T) {
	for _, x := range []struct {
		name string
		a, b api.Leg
		want int
	}{
		{"into the tow", tug(0, 5, 10), boat(0, 4, 5), 1},
		{"beginning in the tow", tug(0, 5, 10), boat(1, 5), 1},
		{"behind the tow", tug(0, 5, 10, 11), boat(0, 4, 4, 5), -1},
		{"right behind", tug(0, 5, 10, 11), boat(0, 8, 4, 5), -1},
		{"the tow behind", boat(0, 5, 10, 11), tug(0, 8, 4, 5), -1},
		{"a tow behind a tow", tug(0, 5, 10, 11, 11), tug(0, 8, 4, 5, 10), -1},
		{"too close behind a tow", tug(0, 5, 10, 11), tug(0, 4, 9, 10), 2},
		{"the other tow", boat(0, 4, 5), tug(0, 5, 10), 1},
		{"two tows in one cell", plane(0, 1, 4, 5), plane(0, 1, 4, 8), 0},
		{"tows that meet", towing(plane(0, 1, 5, 6)), towing(plane(0, 1, 9, 5)), 1},
		{"a tow that was there before the leg", tug(1, 5), boat(1, 4), -1},
		{"no tow where it begins", tug(1, 5, 10), boat(0, 4, 4), -1},
		{"a tow at another level", towing(plane(0, 1, 4, 5)), plane(1, 2, 4), -1},
		{"a tow of an aircraft", towing(plane(0, 1, 4, 5)), plane(1, 1, 4), 1},
		{"a tow after the end of the leg", tug(0, 4, 5), boat(2, 5), -1},
		{"a tow that comes with it", tug(0, 4, 5, 5), boat(2, 4), -1},
		{"a tow in the last tick", tug(2, 5, 5, 10), boat(4, 5), 4},
		{"changing places with a tow", tug(0, 4, 5), tug(0, 5, 4), 1},
		{"a tow in the cell of the other one in the tick before", tug(0, 4, 5), boat(0, 5, 6), -1},
	} {
		if x.a.Level == 0 {
			// Tows of aircraft clash like those of boats.
			holdTwo(t, x.name+" in the air", raised(x.a), raised(x.b), x.want)
		}
		holdTwo(t, x.name, x.a, x.b, x.want)
	}
}

func raised(l api.Leg) api.Leg {
	l.Level, l.Draught = 2, 0
	return l
}

// holdTwo holds when two legs clash, in either order and among legs that clash with none.
func holdTwo(t *testing.T, name string, a, b api.Leg, want int) {
	t.Helper()
	c := calm(4, 3, 20, 5)
	aloft := plane(0, 3, 0, 0, 0, 0, 0)
	for _, l := range [][]api.Leg{{a, b}, {b, a}, {a, aloft, b}, {aloft, b, a}} {
		i, k := 0, 1
		if len(l) == 3 && l[0].Cells[0] == 0 {
			i, k = 1, 2
		} else if len(l) == 3 {
			i, k = 0, 2
		}
		var two [][3]int
		if want >= 0 {
			two = append(two, [3]int{i, k, want})
		}
		if all := mustClashes(t, c, l); !slices.Equal(all, two) {
			t.Errorf("%s: Clashes(%v) = %v, not %v", name, l, all, two)
		}
	}
}

// TestMany is P6.2: each two legs come once, ordered by their indexes, with their first tick.
func TestMany(t *testing.T) {
	same := slices.Repeat([]api.Leg{plane(2, 1, 4, 4)}, 12)
	all := mustClashes(t, sea(), same)
	n := 0
	for i := range 12 {
		for k := i + 1; k < 12; k++ {
			if n < len(all) && all[n] != [3]int{i, k, 2} {
				t.Errorf("%d is %v", n, all[n])
			}
			n++
		}
	}
	if len(all) != n {
		t.Errorf("%d of %d", len(all), n)
	}
	ring := []api.Leg{plane(0, 1, 5, 6, 10), plane(0, 1, 6, 10, 5), plane(0, 1, 10, 5, 6)}
	if l := mustClashes(t, sea(), ring); len(l) > 0 {
		t.Errorf("Three that go round clash: %v", l)
	}
	late := []api.Leg{boat(0, 4, 4, 4, 5), boat(0, 9, 9, 9, 5), boat(0, 10, 10, 9, 9), plane(0, 1, 4)}
	if l := mustClashes(t, sea(), late); !slices.Equal(l, [][3]int{{0, 1, 3}, {1, 2, 2}}) {
		t.Errorf("Clashes that come earlier for later legs = %v", l)
	}
	for _, l := range [][]api.Leg{nil, {}, {boat(0, 5)}, {tug(0, 4, 5, 10)}} {
		if all := mustClashes(t, sea(), l); len(all) > 0 {
			t.Errorf("Clashes of %v = %v", l, all)
		}
	}
}

// TestClashesOneByOne is P6.2 on many seas: all ticks are looked at, one by one.
func TestClashesOneByOne(t *testing.T) {
	some, late, none := 0, 0, 0
	for _, p := range puzzles(2, 3000, 4, 3, 7, 7) {
		want := p.clashes()
		if l := mustClashes(t, p.c, p.l); !slices.Equal(l, want) {
			t.Fatalf("Clashes(%v, %v) = %v, not %v", p.c, p.l, l, want)
		}
		if len(p.l) > 3 && len(want) == 0 {
			none++
		}
		for _, x := range want {
			some++
			if x[2] > 1 {
				late++
			}
		}
	}
	if some < 2500 || late < 500 || none < 50 {
		t.Errorf("the seas are too much alike: %d clashes, %d of them late, none in %d", some, late, none)
	}
}

// TestClashesEachWayRound is P6.11: it does not matter which of two legs comes first.
func TestClashesEachWayRound(t *testing.T) {
	some := 0
	for _, p := range puzzles(3, 1000, 4, 3, 7, 7) {
		back := slices.Clone(p.l)
		slices.Reverse(back)
		there, again := mustClashes(t, p.c, p.l), mustClashes(t, p.c, back)
		if len(there) != len(again) {
			t.Fatalf("%v of %v, but %v of %v", there, p.l, again, back)
		}
		for _, x := range there {
			some++
			last := len(p.l) - 1
			if !slices.Contains(again, [3]int{last - x[1], last - x[0], x[2]}) {
				t.Fatalf("%v of %v, but %v of %v", there, p.l, again, back)
			}
		}
	}
	if some < 1000 {
		t.Errorf("only %d clashes", some)
	}
}

// TestNoClashes is P6.10: two legs at different levels, or whose ticks do not overlap, do not clash.
func TestNoClashes(t *testing.T) {
	apart, overlapping := 0, 0
	for _, p := range puzzles(4, 1000, 2, 2, 7, 7) {
		clashes := mustClashes(t, p.c, p.l)
		for _, x := range clashes {
			a, b := p.l[x[0]], p.l[x[1]]
			if a.Level != b.Level || !belongs(a, x[2]) || !belongs(b, x[2]) {
				t.Fatalf("%v and %v clash in the tick %d", a, b, x[2])
			}
			overlapping++
		}
		apart += len(p.l)*(len(p.l)-1)/2 - len(clashes)
	}
	if overlapping < 1000 || apart < 1000 {
		t.Errorf("%d clash, and %d do not", overlapping, apart)
	}
}
