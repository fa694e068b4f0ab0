package chart

import (
	"iter"
	"slices"

	"coble/api"
)

// way is a direction: the rows to the north, and the columns to the east from an even row and from an odd one.
type way struct {
	north, fromEven, fromOdd int
}

// ways are the directions 0 to 5, from the east round by the north.
var ways = [6]way{{0, 1, 1}, {1, 0, 1}, {1, -1, 0}, {0, -1, -1}, {-1, -1, 0}, {-1, 0, 1}}

// sea is a chart that is open: it is known to be valid.
type sea struct {
	api.Chart
}

// open returns the sea of a chart, about some of its cells and ticks.
func open(c api.Chart, cells, ticks []int) (sea, api.Errno) {
	if !valid(c) {
		return sea{}, api.ErrChart
	}
	s := sea{c}
	if !all(cells, s.isCell) || !all(ticks, s.isTick) {
		return sea{}, api.ErrArg
	}
	return s, api.OK
}

// valid looks at the sides first, so that their product is not too large.
func valid(c api.Chart) bool {
	side, depth := between(1, api.MaxSide), between(-api.MaxDepth, api.MaxDepth)
	ticks, swell := between(1, api.MaxTicks), between(0, api.MaxSwell)
	height := between(0, api.MaxTide)
	tide := func(t api.Span) bool { return height(t.Low) && height(t.High) && t.Low <= t.High }
	return side(c.Wide) && side(c.High) &&
		len(c.Depth) == c.Wide*c.High && all(c.Depth, depth) &&
		ticks(len(c.Tide)) && all(c.Tide, tide) &&
		len(c.Swell) == len(c.Tide) && all(c.Swell, swell)
}

// between returns what reports whether a number is from low to high.
func between(low, high int) func(int) bool {
	return func(n int) bool { return low <= n && n <= high }
}

// all reports whether something is so of all elements of a list.
func all[T any](l []T, is func(T) bool) bool {
	return !slices.ContainsFunc(l, func(x T) bool { return !is(x) })
}

func (s sea) isCell(cell int) bool { return between(0, len(s.Depth)-1)(cell) }

func (s sea) isTick(tick int) bool { return between(0, len(s.Tide)-1)(tick) }

// next returns the neighbour of a cell in a direction, if there is one.
func (s sea) next(cell, direction int) (int, bool) {
	row, column := cell/s.Wide, cell%s.Wide
	w := ways[direction]
	if row%2 == 0 {
		column += w.fromEven
	} else {
		column += w.fromOdd
	}
	row += w.north
	if !between(0, s.High-1)(row) || !between(0, s.Wide-1)(column) {
		return 0, false
	}
	return row*s.Wide + column, true
}

// neighbours yields the neighbours of a cell, by their direction.
func (s sea) neighbours(cell int) iter.Seq[int] {
	return func(yield func(int) bool) {
		for direction := range len(ways) {
			if n, ok := s.next(cell, direction); ok && !yield(n) {
				return
			}
		}
	}
}

// apart counts the steps without looking for them: a step to another row also goes half a cell to the east or to the
// west, so that only the columns that are left over need steps of their own. No such path has to leave the chart.
func (s sea) apart(a, b int) int {
	rows := distance(a/s.Wide, b/s.Wide)
	halves := distance(s.east(a), s.east(b))
	return rows + max(0, halves-rows)/2
}

// east returns how far a cell lies to the east, in halves of a cell.
func (s sea) east(cell int) int {
	return cell%s.Wide*2 + cell/s.Wide%2
}

func distance(a, b int) int { return max(a-b, b-a) }

// water returns the span of the water over a cell in a tick.
func (s sea) water(cell, tick int) api.Span {
	still := s.Depth[cell] - s.Swell[tick]
	return api.Span{Low: still + s.Tide[tick].Low, High: still + s.Tide[tick].High}
}
