package launch

import (
	"slices"

	"coble/api"
	"coble/chart"
	"coble/checks"
)

// station is a ramp with a boat of a class, on a chart: all of them are known to be valid.
type station struct {
	api.Chart
	api.Class
	slip    int        // the cell of the ramp
	windows []api.Span // the ticks in which the boat can be launched, and taken in
}

// open returns the station of a ramp. The ramp has to be valid with its own draught; then it gets that of the boat, and
// the surf that the boat can stand, as chart answers of boats of the ramp.
func open(c api.Chart, b api.Class, r api.Ramp) (station, api.Errno) {
	if e := chart.Check(c); e != api.OK {
		return station{}, e
	}
	if e := Check(b); e != api.OK {
		return station{}, e
	}
	if _, _, e := chart.Windows(c, r); e != api.OK {
		return station{}, e
	}
	r.Draught, r.Surf = b.Draught, min(r.Surf, b.Seas)
	sure, _, _ := chart.Windows(c, r)
	return station{c, b, r.Cell, sure}, api.OK
}

// ready opens a station for a launch in a tick, with some fuel.
func ready(c api.Chart, b api.Class, r api.Ramp, tick, fuel int) (station, api.Errno) {
	s, e := open(c, b, r)
	if e != api.OK {
		return station{}, e
	}
	if !s.isTick(tick) || !checks.Between(0, api.MaxFuel)(fuel) {
		return station{}, api.ErrArg
	}
	return s, api.OK
}

func isClass(b api.Class) bool {
	return checks.Between(1, api.MaxDraught)(b.Draught) && checks.Between(0, api.MaxSwell)(b.Seas) &&
		checks.Between(1, api.MaxBurn)(b.Move) && checks.Between(0, b.Move)(b.Idle) &&
		checks.Between(0, api.MaxFuel)(b.Reserve) && checks.Between(0, api.MaxSeats)(b.Seats) &&
		checks.Between(0, api.MaxMoment)(b.Moment)
}

func isStay(stay int) bool { return checks.Between(0, api.MaxStay)(stay) }

func (s station) isCell(cell int) bool { return checks.Between(0, len(s.Depth)-1)(cell) }

func (s station) isTick(tick int) bool { return checks.Between(0, len(s.Tide)-1)(tick) }

func (s station) isOpen(tick int) bool {
	return slices.ContainsFunc(s.windows, func(w api.Span) bool { return w.Low <= tick && tick <= w.High })
}

// calm returns the chart up to the last tick in which a boat that is launched in a tick can still be at sea: with a swell
// that it cannot stand all passages end.
func (s station) calm(tick int) api.Chart {
	c := s.Chart
	if n := slices.IndexFunc(c.Swell[tick:], func(swell int) bool { return swell > s.Seas }); n >= 0 {
		c.Tide, c.Swell = c.Tide[:tick+n], c.Swell[:tick+n]
	}
	return c
}

// reach returns the first tick in which a boat that is launched in a tick can be in each cell.
func (s station) reach(tick int) []int {
	if !s.isOpen(tick) {
		return s.all(-1)
	}
	first, _ := chart.Arrive(s.calm(tick), s.Draught, s.slip, tick)
	return first
}

// row returns a number for each cell.
func (s station) row(of func(cell int) int) []int {
	l := make([]int, len(s.Depth))
	for cell := range l {
		l[cell] = of(cell)
	}
	return l
}

// all returns the same number for each cell.
func (s station) all(n int) []int {
	return s.row(func(int) int { return n })
}
