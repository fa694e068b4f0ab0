package crews

import "coble/api"

// duty is the service of a hand: for each tick, from -MaxPast on, how many ticks of it are before that one.
type duty [api.MaxPast + api.MaxAhead + 2]int

func dutyOf(service []api.Span) *duty {
	var d duty
	for _, s := range service {
		for tick := s.Low; tick <= s.High; tick++ {
			d[api.MaxPast+tick+1] = 1
		}
	}
	for i := 1; i < len(d); i++ {
		d[i] += d[i-1]
	}
	return &d
}

// within returns how many ticks of service are from low to high. Nobody serves before -MaxPast or after MaxAhead.
func (d *duty) within(low, high int) int {
	low, high = max(low, -api.MaxPast), min(high, api.MaxAhead)
	return d[api.MaxPast+high+1] - d[api.MaxPast+low]
}

// forTicks returns so many ticks, from one on.
func forTicks(tick, n int) api.Span { return api.Span{Low: tick, High: tick + n - 1} }

// inOrder reports whether ticks are from low to high, and none of them is less than the one before.
func inOrder(low, high int, ticks ...int) bool {
	for _, tick := range ticks {
		if tick < low || tick > high {
			return false
		}
		low = tick
	}
	return true
}

func isTick(tick int) bool { return inOrder(-api.MaxPast, api.MaxAhead, tick) }

// areInRow reports whether spans are of ticks from low to high, none of them empty, and each of them behind the one before.
func areInRow(low, high int, l []api.Span) bool {
	for _, s := range l {
		if !inOrder(low, high, s.Low, s.High) {
			return false
		}
		low = s.High + 1
	}
	return true
}
