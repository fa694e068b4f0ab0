package fixes

import (
	"coble/api"
	"coble/chart"
	"coble/checks"
)

// arrow is a direction: how far it points to the east, and how far to the north.
type arrow struct {
	x, y int
}

// turn is above 0 if b lies to the left of a, and 0 if it lies on the same line.
func (a arrow) turn(b arrow) int { return a.x*b.y - a.y*b.x }

// along is above 0 if b points forward, as seen along a.
func (a arrow) along(b arrow) int { return a.x*b.x + a.y*b.y }

// edges returns the directions between which a beam lies.
func edges(r api.Report) (from, to arrow) { return arrow{r.A, r.B}, arrow{r.C, r.D} }

// isTrue reports whether a report is true of a course that is in a cell in the tick of the report.
func (s search) isTrue(r api.Report, cell int) bool {
	switch r.Kind {
	case api.Ring:
		return checks.Between(r.A, r.B)(s.apart(r.Cell, cell))
	case api.Beam:
		return s.isInBeam(r, cell)
	case api.Strip:
		row, column := cell/s.Chart.Wide, cell%s.Chart.Wide
		return checks.Between(r.A, r.B)(row) && checks.Between(r.C, r.D)(column)
	case api.Clear:
		return s.apart(r.Cell, cell) > r.A
	}
	return false
}

func (s search) isInBeam(r api.Report, cell int) bool {
	if cell == r.Cell {
		return false
	}
	from, to := edges(r)
	w := s.arrow(r.Cell, cell)
	if from.turn(to) > 0 {
		return from.turn(w) >= 0 && w.turn(to) >= 0
	}
	return from.turn(w) == 0 && from.along(w) > 0
}

// arrow returns the direction from the centre of a cell to that of another one.
func (s search) arrow(a, b int) arrow {
	from, to := s.centre(a), s.centre(b)
	return arrow{to.x - from.x, to.y - from.y}
}

// centre returns where the centre of a cell lies, as seen from that of the cell 0.
func (s search) centre(cell int) arrow {
	row, column := cell/s.Chart.Wide, cell%s.Chart.Wide
	return arrow{2*column + row%2, 2 * row}
}

func (s search) apart(a, b int) int {
	n, _ := chart.Apart(s.Chart, a, b)
	return n
}
