package lanes_test

import (
	"slices"

	"coble/api"
	"coble/chart"
)

// floats looks at the water with each height of the tide; an aircraft need not float.
func floats(c api.Chart, l api.Leg, cell, tick int) bool {
	if l.Level > 0 {
		return true
	}
	for height := c.Tide[tick].Low; height <= c.Tide[tick].High; height++ {
		if c.Depth[cell]+height-c.Swell[tick] < l.Draught {
			return false
		}
	}
	return true
}

// belongs reports whether a tick belongs to a leg.
func belongs(l api.Leg, tick int) bool { return l.At <= tick && tick < l.At+len(l.Cells) }

// occupied returns the cells that the unit of a leg occupies in a tick.
func occupied(l api.Leg, tick int) []int {
	if !belongs(l, tick) {
		return nil
	}
	cells := []int{l.Cells[tick-l.At]}
	if l.Tail && belongs(l, tick-1) {
		cells = append(cells, l.Cells[tick-1-l.At])
	}
	return cells
}

// clash says it in the words of the chapter.
func clash(a, b api.Leg, tick int) bool {
	if a.Level != b.Level || !belongs(a, tick) || !belongs(b, tick) {
		return false
	}
	for _, cell := range occupied(a, tick) {
		if slices.Contains(occupied(b, tick), cell) {
			return true
		}
	}
	if !belongs(a, tick-1) || !belongs(b, tick-1) {
		return false
	}
	i, k := tick-a.At, tick-b.At
	return a.Cells[i] == b.Cells[k-1] && b.Cells[k] == a.Cells[i-1] && a.Cells[i-1] != b.Cells[k-1]
}

// firstClash returns the first tick in which two legs clash, or -1.
func firstClash(c api.Chart, a, b api.Leg) int {
	for tick := range c.Tide {
		if clash(a, b, tick) {
			return tick
		}
	}
	return -1
}

func (p puzzle) clashes() [][3]int {
	var l [][3]int
	for i := range p.l {
		for k := i + 1; k < len(p.l); k++ {
			if tick := firstClash(p.c, p.l[i], p.l[k]); tick >= 0 {
				l = append(l, [3]int{i, k, tick})
			}
		}
	}
	return l
}

// isFree reports whether no unit at the level occupies the cell in a tick.
func (p puzzle) isFree(tick int) bool {
	for _, l := range p.l {
		if l.Level == p.level && slices.Contains(occupied(l, tick), p.cell) {
			return false
		}
	}
	return true
}

// nearCells returns for each cell those that are at most one step away.
func nearCells(c api.Chart) [][]int {
	l := make([][]int, len(c.Depth))
	for a := range l {
		for b := range l {
			if n, _ := chart.Apart(c, a, b); n <= 1 {
				l[a] = append(l[a], b)
			}
		}
	}
	return l
}

// way is a route of a trip over the chart, and the set of those legs with which it clashes.
type way struct {
	cells []int
	with  int
}

// ways returns all routes of a trip, without looking at the legs first.
func ways(c api.Chart, legs []api.Leg, t api.Trip) []way {
	var l []way
	near := nearCells(c)
	var longer func(cells []int)
	longer = func(cells []int) {
		last, tick := cells[len(cells)-1], t.At+len(cells)-1
		if tick == len(c.Tide) || !floats(c, legOf(t, nil), last, tick) {
			return
		}
		if last == t.To {
			l = append(l, way{cells, clashesWith(c, legs, legOf(t, cells))})
		}
		for _, next := range near[last] {
			longer(append(slices.Clone(cells), next))
		}
	}
	longer([]int{t.From})
	return l
}

func clashesWith(c api.Chart, legs []api.Leg, l api.Leg) int {
	with := 0
	for i, other := range legs {
		if firstClash(c, other, l) >= 0 {
			with |= 1 << i
		}
	}
	return with
}

// earliest returns the first of the earliest ways that clash with none of a set of legs, or none.
func earliest(l []way, among int) []int {
	var best []int
	for _, w := range l {
		if w.with&among == 0 && (best == nil || before(w.cells, best)) {
			best = w.cells
		}
	}
	return best
}

// before compares two ways by their ends, and then by the last place at which they differ.
func before(a, b []int) bool {
	if len(a) != len(b) {
		return len(a) < len(b)
	}
	for i := len(a) - 1; i >= 0; i-- {
		if a[i] != b[i] {
			return a[i] < b[i]
		}
	}
	return false
}

// blocks returns what Block returns if there is no route among n legs.
func blocks(l []way, n int) []int {
	among := 1<<n - 1
	for i := range n {
		if earliest(l, among&^(1<<i)) == nil {
			among &^= 1 << i
		}
	}
	return elements(among)
}

func elements(set int) []int {
	var l []int
	for i := 0; set>>i > 0; i++ {
		if set>>i&1 == 1 {
			l = append(l, i)
		}
	}
	return l
}

// plan returns the legs of the trips that can be planned, and when the trips end.
func (p puzzle) plan() (legs []api.Leg, ends []int) {
	legs = slices.Clone(p.l)
	for _, t := range p.trips {
		cells := earliest(ways(p.c, legs, t), 1<<len(legs)-1)
		if cells == nil {
			ends = append(ends, -1)
			continue
		}
		legs, ends = append(legs, legOf(t, cells)), append(ends, t.At+len(cells)-1)
	}
	return legs, ends
}

// isLeg reports whether a leg is valid for a chart, without going through all of them.
func isLeg(c api.Chart, l api.Leg) bool {
	if len(l.Cells) == 0 || l.At < 0 || l.At+len(l.Cells) > len(c.Tide) || (l.Level == 0) != (l.Draught > 0) {
		return false
	}
	for i, cell := range l.Cells {
		n, e := chart.Apart(c, l.Cells[max(i-1, 0)], cell)
		if e != api.OK || n > 1 || !floats(c, l, cell, l.At+i) {
			return false
		}
	}
	return true
}
