package fixes_test

import (
	"maps"
	"math"
	"slices"

	"coble/api"
)

// The model tries all courses, one by one, and all lists of reports. It asks no other package.

// model is what trying all courses of a distress tells: the courses in ascending order, and for each of them which reports
// are true of it: the bit i is 1, if the report i is.
type model struct {
	api.Distress
	courses [][]int
	truths  []int
}

func try(d api.Distress) model {
	m := model{Distress: d}
	apart := distances(d.Chart)
	var sail func(course []int)
	sail = func(course []int) {
		if len(course) == len(d.Chart.Tide) {
			m.courses = append(m.courses, course)
			m.truths = append(m.truths, truth(d, apart, course))
			return
		}
		for cell := range d.Chart.Depth {
			if mayFloat(d, cell, len(course)) && (len(course) == 0 || apart[course[len(course)-1]][cell] <= d.Pace) {
				sail(append(slices.Clone(course), cell))
			}
		}
	}
	sail(nil)
	return m
}

// mayFloat asks each height of the tide by itself.
func mayFloat(d api.Distress, cell, tick int) bool {
	for h := d.Chart.Tide[tick].Low; h <= d.Chart.Tide[tick].High; h++ {
		if d.Chart.Depth[cell]+h-d.Chart.Swell[tick] >= d.Draught {
			return true
		}
	}
	return false
}

// place returns how far a cell lies to the east, in halves of a cell, and how many rows to the north.
func place(c api.Chart, cell int) (east, north int) {
	row, column := cell/c.Wide, cell%c.Wide
	return 2*column + row%2, row
}

// adjoin reports whether cells are neighbours.
func adjoin(c api.Chart, a, b int) bool {
	x, y := place(c, a)
	u, v := place(c, b)
	return y == v && max(x-u, u-x) == 2 || max(y-v, v-y) == 1 && max(x-u, u-x) == 1
}

// distances goes from neighbour to neighbour.
func distances(c api.Chart) [][]int {
	var all [][]int
	for from := range c.Depth {
		l := slices.Repeat([]int{-1}, len(c.Depth))
		l[from] = 0
		for queue := []int{from}; len(queue) > 0; queue = queue[1:] {
			for n := range c.Depth {
				if l[n] < 0 && adjoin(c, queue[0], n) {
					l[n] = l[queue[0]] + 1
					queue = append(queue, n)
				}
			}
		}
		all = append(all, l)
	}
	return all
}

// inBeam compares angles.
func inBeam(c api.Chart, r api.Report, cell int) bool {
	if cell == r.Cell {
		return false
	}
	x, y := place(c, r.Cell)
	u, v := place(c, cell)
	from := math.Atan2(float64(r.B), float64(r.A))
	ahead := func(x, y int) float64 {
		angle := math.Atan2(float64(y), float64(x)) - from
		for angle < -1e-9 {
			angle += 2 * math.Pi
		}
		for angle > 2*math.Pi-1e-9 {
			angle -= 2 * math.Pi
		}
		return angle
	}
	return ahead(u-x, 2*(v-y)) <= ahead(r.C, r.D)+1e-9
}

func isTrue(c api.Chart, apart [][]int, r api.Report, cell int) bool {
	steps := apart[r.Cell][cell]
	switch r.Kind {
	case api.Ring:
		return r.A <= steps && steps <= r.B
	case api.Beam:
		return inBeam(c, r, cell)
	case api.Strip:
		row, column := cell/c.Wide, cell%c.Wide
		return r.A <= row && row <= r.B && r.C <= column && column <= r.D
	}
	return steps > r.A
}

func truth(d api.Distress, apart [][]int, course []int) int {
	bits := 0
	for i, r := range d.Reports {
		if isTrue(d.Chart, apart, r, course[r.Tick]) {
			bits |= 1 << i
		}
	}
	return bits
}

// doubt returns the doubt of a course by the reports that are true of it; -1, if it is not possible.
func (m model) doubt(truth int) int {
	sum := 0
	for i, r := range m.Reports {
		switch {
		case truth>>i&1 == 1:
		case r.Sure:
			return -1
		default:
			sum += r.Weight
		}
	}
	return sum
}

// best returns the first one of the courses that have the least doubt.
func (m model) best() (doubt int, course []int) {
	doubt = -1
	for i, truth := range m.truths {
		if n := m.doubt(truth); n >= 0 && (doubt < 0 || n < doubt) {
			doubt, course = n, m.courses[i]
		}
	}
	return doubt, course
}

// where returns the cells in a tick of those courses of which something is so.
func (m model) where(tick int, is func(truth int) bool) []int {
	set := map[int]bool{}
	for i, truth := range m.truths {
		if is(truth) {
			set[m.courses[i][tick]] = true
		}
	}
	return slices.Sorted(maps.Keys(set))
}

// within returns the cells in a tick of those courses that have at most this doubt.
func (m model) within(tick, doubt int) []int {
	return m.where(tick, func(truth int) bool { return m.doubt(truth) >= 0 && m.doubt(truth) <= doubt })
}

// through returns the model of those courses alone that are in a cell in a tick.
func (m model) through(tick, cell int) model {
	out := model{Distress: m.Distress}
	for i, course := range m.courses {
		if course[tick] == cell {
			out.courses, out.truths = append(out.courses, course), append(out.truths, m.truths[i])
		}
	}
	return out
}

// fits returns for each set of reports, as bits, whether all of them are true of some course.
func (m model) fits() []bool {
	l := make([]bool, 1<<len(m.Reports))
	for bits := range l {
		l[bits] = slices.ContainsFunc(m.truths, func(truth int) bool { return truth&bits == bits })
	}
	return l
}

// contradiction looks at each list of reports, and keeps the least one of those that no course agrees with.
func (m model) contradiction() (least []int, found bool) {
	for bits, fits := range m.fits() {
		if fits {
			continue
		}
		l := slices.DeleteFunc(upTo(len(m.Reports)), func(i int) bool { return bits>>i&1 == 0 })
		if !found || len(l) < len(least) || len(l) == len(least) && slices.Compare(l, least) < 0 {
			least, found = l, true
		}
	}
	return least, found
}

// sources looks at each list of numbers, for no casualty, one, two and so on.
func (m model) sources() (least []int, found bool) {
	fits := m.fits()
	for most := range len(m.Reports) + 1 {
		for l, ok := make([]int, len(m.Reports)), most > 0 || len(m.Reports) == 0; ok; ok = next(l, most) {
			if isSharing(l, most, fits) {
				return l, true
			}
		}
	}
	return nil, false
}

// next changes a list of numbers that are less than most to the next one, if there is one.
func next(l []int, most int) bool {
	for i := len(l) - 1; i >= 0; i-- {
		if l[i] < most-1 {
			l[i]++
			return true
		}
		l[i] = 0
	}
	return false
}

// isSharing reports whether the reports of each casualty may be of one.
func isSharing(l []int, most int, fits []bool) bool {
	of := make([]int, most)
	for i, number := range l {
		of[number] |= 1 << i
	}
	return !slices.ContainsFunc(of, func(bits int) bool { return bits > 0 && !fits[bits] })
}
