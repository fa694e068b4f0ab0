package chart

import (
	"iter"

	"coble/api"
	"coble/checks"
)

// way is a direction: the rows to the north, and the columns to the east from an even row and from an odd one.
type way struct {
	north, fromEven, fromOdd int
}

// ways are the directions 0 to 5, from the east round by the north.
var ways = [6]way{{0, 1, 1}, {1, 0, 1}, {1, -1, 0}, {0, -1, -1}, {-1, -1, 0}, {-1, 0, 1}}

// sea is a chart that is open: it is known to be valid.
type sea struct {
	api.Chart
}

// open returns the sea of a chart, about some of its cells and ticks.
func open(c api.Chart, cells, ticks []int) (sea, api.Errno) {
	if !valid(c) {
		return sea{}, api.ErrChart
	}
	s := sea{c}
	if !checks.All(cells, s.isCell) || !checks.All(ticks, s.isTick) {
		return sea{}, api.ErrArg
	}
	return s, api.OK
}

// valid looks at the sides first, so that their product is not too large.
func valid(c api.Chart) bool {
	side, depth := checks.Between(1, api.MaxSide), checks.Between(-api.MaxDepth, api.MaxDepth)
	ticks, swell := checks.Between(1, api.MaxTicks), checks.Between(0, api.MaxSwell)
	tide := checks.Within(0, api.MaxTide)
	return side(c.Wide) && side(c.High) &&
		len(c.Depth) == c.Wide*c.High && checks.All(c.Depth, depth) &&
		ticks(len(c.Tide)) && checks.All(c.Tide, tide) &&
		len(c.Swell) == len(c.Tide) && checks.All(c.Swell, swell)
}

func (s sea) isCell(cell int) bool { return checks.Between(0, len(s.Depth)-1)(cell) }

func (s sea) isTick(tick int) bool { return checks.Between(0, len(s.Tide)-1)(tick) }

// next returns the neighbour of a cell in a direction, if there is one.
func (s sea) next(cell, direction int) (int, bool) {
	row, column := cell/s.Wide, cell%s.Wide
	w := ways[direction]
	if row%2 == 0 {
		column += w.fromEven
	} else {
		column += w.fromOdd
	}
	row += w.north
	if !checks.Between(0, s.High-1)(row) || !checks.Between(0, s.Wide-1)(column) {
		return 0, false
	}
	return row*s.Wide + column, true
}

// neighbours yields the neighbours of a cell, by their direction.
func (s sea) neighbours(cell int) iter.Seq[int] {
	return func(yield func(int) bool) {
		for direction := range len(ways) {
			if n, ok := s.next(cell, direction); ok && !yield(n) {
				return
			}
		}
	}
}

// apart counts the steps without looking for them: a step to another row also goes half a cell to the east or to the
// west, so that only the columns that are left over need steps of their own. No such path has to leave the chart.
func (s sea) apart(a, b int) int {
	rows := distance(a/s.Wide, b/s.Wide)
	halves := distance(s.east(a), s.east(b))
	return rows + max(0, halves-rows)/2
}

// east returns how far a cell lies to the east, in halves of a cell.
func (s sea) east(cell int) int {
	return cell%s.Wide*2 + cell/s.Wide%2
}

func distance(a, b int) int { return max(a-b, b-a) }

// water returns the span of the water over a cell in a tick.
func (s sea) water(cell, tick int) api.Span {
	still := s.Depth[cell] - s.Swell[tick]
	return api.Span{Low: still + s.Tide[tick].Low, High: still + s.Tide[tick].High}
}
