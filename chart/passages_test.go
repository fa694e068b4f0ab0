package chart_test

import (
	"slices"
	"testing"

	"coble/api"
	"coble/chart"
)

// TestTryAll holds P1.6 to P1.9 against all passages of small charts, tried one by one.
func TestTryAll(t *testing.T) {
	charts := append(lots(6, 60, 3, 3, 5), lots(7, 10, 4, 4, 4)...)
	charts = append(charts, still(3, 3, 9, 4), still(1, 4, 9, 4), still(4, 1, 9, 4))
	for i, c := range charts {
		draught := 1 + i%9
		holdAll(t, c, draught, tryAll(c, draught))
	}
}

func holdAll(t *testing.T, c api.Chart, draught int, k known) {
	t.Helper()
	for from := range c.Depth {
		for tick := range c.Tide {
			holdArrive(t, c, draught, from, tick, k)
			holdPassage(t, c, draught, from, tick, k)
			holdDepart(t, c, draught, from, tick, k)
			holdMoves(t, c, draught, from, tick, k)
		}
	}
}

func holdArrive(t *testing.T, c api.Chart, draught, from, tick int, k known) {
	t.Helper()
	for to, end := range mustArrive(t, c, draught, from, tick) {
		want := -1
		if l, ok := k.first[[3]int{from, tick, to}]; ok {
			want = tick + len(l) - 1
		}
		if end != want {
			t.Fatalf("Arrive(%v, %d, %d, %d) at %d: %d, want %d", c, draught, from, tick, to, end, want)
		}
	}
}

func holdPassage(t *testing.T, c api.Chart, draught, from, tick int, k known) {
	t.Helper()
	for to := range c.Depth {
		want, ok := k.first[[3]int{from, tick, to}]
		l, e := chart.Passage(c, draught, from, tick, to)
		if ok != (e == api.OK) || !ok && e != api.ErrNone || !slices.Equal(l, want) {
			t.Fatalf("Passage(%v, %d, %d, %d, %d) = %v, %d, want %v", c, draught, from, tick, to, l, e, want)
		}
	}
}

func holdDepart(t *testing.T, c api.Chart, draught, to, tick int, k known) {
	t.Helper()
	for from, leave := range mustDepart(t, c, draught, to, tick) {
		want := -1
		for s := 0; s <= tick; s++ {
			if k.least(from, s, to, tick) >= 0 {
				want = s
			}
		}
		if leave != want {
			t.Fatalf("Depart(%v, %d, %d, %d) from %d: %d, want %d", c, draught, to, tick, from, leave, want)
		}
	}
}

func holdMoves(t *testing.T, c api.Chart, draught, from, tick int, k known) {
	t.Helper()
	for until := range c.Tide {
		for to, n := range mustMoves(t, c, draught, from, tick, until) {
			if want := k.least(from, tick, to, until); n != want {
				t.Fatalf("Moves(%v, %d, %d, %d, %d) to %d: %d, want %d", c, draught, from, tick, until, to, n, want)
			}
		}
	}
}

// TestLastTick: in the last tick a boat is only where it is, and in the first one it has come from nowhere else.
func TestLastTick(t *testing.T) {
	at := func(cell, value int) []int {
		l := slices.Repeat([]int{-1}, 12)
		l[cell] = value
		return l
	}
	c := sea()
	if l := mustArrive(t, c, 20, 9, 4); !slices.Equal(l, at(9, 4)) {
		t.Errorf("Arrive = %v", l)
	}
	if l := mustDepart(t, c, 20, 9, 0); !slices.Equal(l, at(9, 0)) {
		t.Errorf("Depart = %v", l)
	}
	for tick := range 5 {
		if l := mustMoves(t, c, 20, 9, tick, tick); !slices.Equal(l, at(9, 0)) {
			t.Errorf("Moves in %d = %v", tick, l)
		}
	}
	if l, e := chart.Passage(c, 20, 9, 4, 9); e != api.OK || !slices.Equal(l, []int{9}) {
		t.Errorf("Passage = %v, %d", l, e)
	}
	if l, e := chart.Passage(c, 20, 9, 4, 8); e != api.ErrNone || len(l) > 0 {
		t.Errorf("Passage to a neighbour = %v, %d", l, e)
	}
	if l := mustArrive(t, c, 20, 9, 3); !slices.Equal(l, []int{-1, -1, -1, -1, 4, 4, -1, -1, 4, 3, 4, -1}) {
		t.Errorf("Arrive in the last but one = %v", l)
	}
}

// TestAground: who does not surely float at first, or at last, goes nowhere.
func TestAground(t *testing.T) {
	c := sea()
	none := slices.Repeat([]int{-1}, 12)
	if l := mustArrive(t, c, 20, 6, 0); !slices.Equal(l, none) {
		t.Errorf("Arrive = %v", l)
	}
	if l := mustDepart(t, c, 20, 6, 4); !slices.Equal(l, none) {
		t.Errorf("Depart = %v", l)
	}
	if l := mustMoves(t, c, 20, 6, 0, 4); !slices.Equal(l, none) {
		t.Errorf("Moves = %v", l)
	}
	if l, e := chart.Passage(c, 20, 6, 0, 6); e != api.ErrNone || len(l) > 0 {
		t.Errorf("Passage = %v, %d", l, e)
	}
	if l := mustArrive(t, c, 18, 6, 0); !slices.Equal(l, none) {
		t.Errorf("Arrive of who may float = %v", l)
	}
	if l := mustArrive(t, c, 15, 6, 0); l[6] != 0 {
		t.Errorf("Arrive of who surely floats = %v", l)
	}
}

// TestBackInTime: until is before the tick, whatever the draught and the cell are.
func TestBackInTime(t *testing.T) {
	for tick := range 5 {
		for until := range tick {
			if l := mustMoves(t, sea(), 1, 8, tick, until); !slices.Equal(l, slices.Repeat([]int{-1}, 12)) {
				t.Errorf("Moves from %d until %d = %v", tick, until, l)
			}
		}
	}
}

// TestWaiting: a row of three cells, whose middle one floats the boat only in the ticks 2 and 3.
func TestWaiting(t *testing.T) {
	c := still(3, 1, 5, 6)
	c.Depth[1] = 0
	c.Tide[2], c.Tide[3] = span(5, 9), span(5, 5)
	if l := mustArrive(t, c, 5, 0, 0); !slices.Equal(l, []int{0, 2, 3}) {
		t.Errorf("Arrive = %v", l)
	}
	if l := mustDepart(t, c, 5, 0, 5); !slices.Equal(l, []int{5, 3, 2}) {
		t.Errorf("Depart = %v", l)
	}
	if l, e := chart.Passage(c, 5, 0, 0, 2); e != api.OK || !slices.Equal(l, []int{0, 0, 1, 2}) {
		t.Errorf("Passage = %v, %d", l, e)
	}
	for until, want := range [][]int{{0, -1, -1}, {0, -1, -1}, {0, 1, -1}, {0, 1, 2}, {0, -1, 2}, {0, -1, 2}} {
		if l := mustMoves(t, c, 5, 0, 0, until); !slices.Equal(l, want) {
			t.Errorf("Moves until %d = %v", until, l)
		}
	}
	if l := mustArrive(t, c, 5, 0, 4); !slices.Equal(l, []int{4, -1, -1}) {
		t.Errorf("Arrive too late = %v", l)
	}
	if l := mustMoves(t, c, 5, 1, 2, 4); !slices.Equal(l, []int{1, -1, 1}) {
		t.Errorf("Moves of who must leave = %v", l)
	}
}

// TestFirstPassage: of all passages over open water the one with the lesser cells at the end.
func TestFirstPassage(t *testing.T) {
	c := still(5, 5, 9, 8)
	for _, x := range []struct {
		from, to int
		want     []int
	}{
		{0, 7, []int{0, 1, 2, 7}}, {7, 0, []int{7, 2, 1, 0}}, {20, 4, []int{20, 15, 11, 6, 2, 3, 4}},
		{4, 20, []int{4, 3, 2, 6, 11, 15, 20}}, {2, 22, []int{2, 6, 11, 16, 22}}, {12, 12, []int{12}},
	} {
		l, e := chart.Passage(c, 9, x.from, 1, x.to)
		if e != api.OK || !isPassage(c, 9, 1, l) {
			t.Errorf("Passage(%d, %d) = %v, %d", x.from, x.to, l, e)
		}
		if !slices.Equal(l, x.want) {
			t.Errorf("Passage(%d, %d) = %v, want %v", x.from, x.to, l, x.want)
		}
	}
}

// channel is a chart of the greatest size, whose only water winds to the north from the cell 1: the even rows but for
// their column 0, and one cell of each odd row, at its east end and its west end by turns. It returns the cells of this
// water too, each of them next to those before and behind it alone.
func channel() (c api.Chart, cells []int) {
	c = still(12, 12, -1, api.MaxTicks)
	for row := 0; row < 12; row += 2 {
		for i := range 11 {
			if row%4 == 0 {
				cells = append(cells, row*12+1+i)
			} else {
				cells = append(cells, row*12+11-i)
			}
		}
		if row%4 == 0 {
			cells = append(cells, row*12+12+11)
		} else {
			cells = append(cells, row*12+12)
		}
	}
	for _, cell := range cells {
		c.Depth[cell] = 1
	}
	return c, cells
}

// TestChannel: passages of as many ticks as a chart can have.
func TestChannel(t *testing.T) {
	c, cells := channel()
	onward, back := slices.Repeat([]int{-1}, 144), slices.Repeat([]int{-1}, 144)
	for i, cell := range cells[:60] {
		onward[cell], back[cell] = i, 59-i
	}
	if l := mustArrive(t, c, 1, cells[0], 0); !slices.Equal(l, onward) {
		t.Errorf("Arrive = %v, want %v", l, onward)
	}
	if l := mustMoves(t, c, 1, cells[0], 0, 59); !slices.Equal(l, onward) {
		t.Errorf("Moves = %v, want %v", l, onward)
	}
	if l := mustDepart(t, c, 1, cells[0], 59); !slices.Equal(l, back) {
		t.Errorf("Depart = %v, want %v", l, back)
	}
	if l, e := chart.Passage(c, 1, cells[0], 0, cells[59]); e != api.OK || !slices.Equal(l, cells[:60]) {
		t.Errorf("Passage = %v, %d", l, e)
	}
	if l, e := chart.Passage(c, 1, cells[0], 0, cells[60]); e != api.ErrNone || len(l) > 0 {
		t.Errorf("Passage too far = %v, %d", l, e)
	}
}
