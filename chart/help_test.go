package chart_test

import (
	"math/rand/v2"
	"slices"
	"testing"

	"coble/api"
	"coble/chart"
)

func span(low, high int) api.Span { return api.Span{Low: low, High: high} }

// sea is the chart C of the chapter's examples.
func sea() api.Chart {
	return api.Chart{
		Wide: 4, High: 3, Depth: []int{0, 0, -50, -90, 30, 20, 10, -20, 60, 60, 40, 30},
		Tide:  []api.Span{span(10, 14), span(20, 26), span(30, 36), span(20, 26), span(10, 14)},
		Swell: []int{5, 5, 5, 5, 5},
	}
}

// still is a chart of one depth, without tide and swell.
func still(wide, high, depth, ticks int) api.Chart {
	return api.Chart{
		Wide: wide, High: high, Depth: slices.Repeat([]int{depth}, wide*high),
		Tide: make([]api.Span, ticks), Swell: make([]int, ticks),
	}
}

func copied(c api.Chart) api.Chart {
	c.Depth, c.Tide, c.Swell = slices.Clone(c.Depth), slices.Clone(c.Tide), slices.Clone(c.Swell)
	return c
}

func same(a, b api.Chart) bool {
	return a.Wide == b.Wide && a.High == b.High &&
		slices.Equal(a.Depth, b.Depth) && slices.Equal(a.Tide, b.Tide) && slices.Equal(a.Swell, b.Swell)
}

// lots returns charts that look random and are the same in every run.
func lots(seed uint64, n, wide, high, ticks int) []api.Chart {
	r := rand.New(rand.NewPCG(seed, 1))
	var l []api.Chart
	for range n {
		c := still(1+r.IntN(wide), 1+r.IntN(high), 0, 1+r.IntN(ticks))
		for i := range c.Depth {
			c.Depth[i] = r.IntN(30) - 8
		}
		for i := range c.Tide {
			low := r.IntN(20)
			c.Tide[i], c.Swell[i] = span(low, low+r.IntN(5)), r.IntN(4)
		}
		l = append(l, c)
	}
	return l
}

// beside finds a neighbour by where the cells lie, in halves of a cell to the east and in rows to the north; -1: none.
func beside(c api.Chart, cell, direction int) int {
	place := func(cell int) [2]int {
		row, column := cell/c.Wide, cell%c.Wide
		return [2]int{2*column + row%2, row}
	}
	off := [6][2]int{{2, 0}, {1, 1}, {-1, 1}, {-2, 0}, {-1, -1}, {1, -1}}[direction]
	from := place(cell)
	for n := range c.Depth {
		if place(n) == [2]int{from[0] + off[0], from[1] + off[1]} {
			return n
		}
	}
	return -1
}

// floatsWith reports whether a boat floats with one height of the tide.
func floatsWith(c api.Chart, draught, cell, tick, height int) bool {
	return c.Depth[cell]+height-c.Swell[tick] >= draught
}

// afloat asks each height of a tick by itself.
func afloat(c api.Chart, draught, cell, tick int) (sure, may bool) {
	sure = true
	for h := c.Tide[tick].Low; h <= c.Tide[tick].High; h++ {
		if floatsWith(c, draught, cell, tick, h) {
			may = true
		} else {
			sure = false
		}
	}
	return sure, may
}

// passages calls visit with all passages of all lengths that begin in a cell, in a tick.
func passages(c api.Chart, draught, from, tick int, visit func(cells []int)) {
	var sail func(cells []int)
	sail = func(cells []int) {
		now := tick + len(cells) - 1
		last := cells[len(cells)-1]
		if now == len(c.Tide) {
			return
		}
		if sure, _ := afloat(c, draught, last, now); !sure {
			return
		}
		visit(cells)
		sail(append(slices.Clone(cells), last))
		for d := range 6 {
			if n := beside(c, last, d); n >= 0 {
				sail(append(slices.Clone(cells), n))
			}
		}
	}
	sail([]int{from})
}

func movesOf(cells []int) int {
	n := 0
	for i := 1; i < len(cells); i++ {
		if cells[i] != cells[i-1] {
			n++
		}
	}
	return n
}

// isPassage reports whether cells are a passage from a tick on.
func isPassage(c api.Chart, draught, tick int, cells []int) bool {
	for i, cell := range cells {
		if tick+i >= len(c.Tide) {
			return false
		}
		if sure, _ := afloat(c, draught, cell, tick+i); !sure {
			return false
		}
		if i > 0 && cell != cells[i-1] && !adjoin(c, cells[i-1], cell) {
			return false
		}
	}
	return len(cells) > 0
}

func adjoin(c api.Chart, a, b int) bool {
	for d := range 6 {
		if beside(c, a, d) == b {
			return true
		}
	}
	return false
}

// known is what trying all passages of a chart tells: by from, tick, to and end, the least number of moves (-1: no
// passage), and by from, tick and to the first of those that end soonest.
type known struct {
	moves map[[4]int]int
	first map[[3]int][]int
}

func (k known) least(from, tick, to, end int) int {
	if n, ok := k.moves[[4]int{from, tick, to, end}]; ok {
		return n
	}
	return -1
}

func tryAll(c api.Chart, draught int) known {
	k := known{map[[4]int]int{}, map[[3]int][]int{}}
	for from := range c.Depth {
		for tick := range c.Tide {
			passages(c, draught, from, tick, func(cells []int) {
				k.note(from, tick, cells)
			})
		}
	}
	return k
}

func (k known) note(from, tick int, cells []int) {
	to := cells[len(cells)-1]
	whole := [4]int{from, tick, to, tick + len(cells) - 1}
	if n, ok := k.moves[whole]; !ok || movesOf(cells) < n {
		k.moves[whole] = movesOf(cells)
	}
	ends := [3]int{from, tick, to}
	if old, ok := k.first[ends]; !ok || len(cells) < len(old) || len(cells) == len(old) && earlier(cells, old) {
		k.first[ends] = cells
	}
}

// earlier reports whether a has the lesser cell at the last place at which it differs from b.
func earlier(a, b []int) bool {
	for i := len(a) - 1; i >= 0; i-- {
		if a[i] != b[i] {
			return a[i] < b[i]
		}
	}
	return false
}

// mustMoves and the others below return results that have to come without an error.
func mustMoves(t *testing.T, c api.Chart, draught, from, tick, until int) []int {
	t.Helper()
	l, e := chart.Moves(c, draught, from, tick, until)
	if e != api.OK || len(l) != len(c.Depth) {
		t.Fatalf("Moves(%v, %d, %d, %d, %d) = %v, %d", c, draught, from, tick, until, l, e)
	}
	return l
}

func mustArrive(t *testing.T, c api.Chart, draught, from, tick int) []int {
	t.Helper()
	l, e := chart.Arrive(c, draught, from, tick)
	if e != api.OK || len(l) != len(c.Depth) {
		t.Fatalf("Arrive(%v, %d, %d, %d) = %v, %d", c, draught, from, tick, l, e)
	}
	return l
}

func mustDepart(t *testing.T, c api.Chart, draught, to, tick int) []int {
	t.Helper()
	l, e := chart.Depart(c, draught, to, tick)
	if e != api.OK || len(l) != len(c.Depth) {
		t.Fatalf("Depart(%v, %d, %d, %d) = %v, %d", c, draught, to, tick, l, e)
	}
	return l
}

func mustApart(t *testing.T, c api.Chart, a, b int) int {
	t.Helper()
	n, e := chart.Apart(c, a, b)
	if e != api.OK {
		t.Fatalf("Apart(%v, %d, %d): %d", c, a, b, e)
	}
	return n
}

func mustFloats(t *testing.T, c api.Chart, draught, cell, tick int) (sure, may bool) {
	t.Helper()
	sure, may, e := chart.Floats(c, draught, cell, tick)
	if e != api.OK {
		t.Fatalf("Floats(%v, %d, %d, %d): %d", c, draught, cell, tick, e)
	}
	return sure, may
}

func mustWindows(t *testing.T, c api.Chart, r api.Ramp) (sure, may []api.Span) {
	t.Helper()
	sure, may, e := chart.Windows(c, r)
	if e != api.OK {
		t.Fatalf("Windows(%v, %v): %d", c, r, e)
	}
	return sure, may
}
