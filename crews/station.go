package crews

import (
	"slices"

	"coble/api"
	"coble/checks"
)

const skills = 8

// station is a station that is known to be valid.
type station struct {
	api.Station
}

// open returns a station for work.
func open(s api.Station) (station, api.Errno) {
	if !isStation(s) || !checks.All(s.Hands, isHand) {
		return station{}, api.ErrStation
	}
	return station{s}, api.OK
}

func isStation(s api.Station) bool {
	return len(s.Hands) <= api.MaxHands && checks.Between(1, api.MaxWindow)(s.Window) && checks.Between(0, s.Window)(s.Duty)
}

func isHand(h api.Hand) bool {
	return areSkills(h.Skills) && checks.Within(0, api.MaxAway)(h.Away) &&
		len(h.Log) <= api.MaxLog && areInRow(-api.MaxPast, -1, h.Log) &&
		checks.Between(api.Silent, api.Stays)(h.Answer)
}

func areSkills(set int) bool { return checks.Between(0, 1<<skills-1)(set) }

func isHandOf(hands, hand int) bool { return checks.Between(0, hands-1)(hand) }

// checkSeats returns what is wrong with seats.
func checkSeats(seats []int) api.Errno {
	if len(seats) > api.MaxCrew {
		return api.ErrMany
	}
	if !checks.All(seats, areSkills) {
		return api.ErrSeat
	}
	return api.OK
}

// mayServe reports whether a hand may serve in some spans of ticks, in all of them: each window that has a tick of them is
// looked at, with the Log.
func (s station) mayServe(hand int, service ...api.Span) bool {
	d := dutyOf(slices.Concat(s.Hands[hand].Log, service))
	for _, x := range service {
		for low := x.Low - s.Window + 1; low <= x.High; low++ {
			if d.within(low, low+s.Window-1) > s.Duty {
				return false
			}
		}
	}
	return true
}

// spare returns the greatest number of ticks, up to MaxShift, for which a hand may serve from a tick on.
func (s station) spare(hand, tick int) int {
	for n := range api.MaxShift {
		if !s.mayServe(hand, forTicks(tick, n+1)) {
			return n
		}
	}
	return api.MaxShift
}

// places returns, for each seat, those of some hands who have its skills, in ascending order.
func (s station) places(seats []int, isThere func(hand int) bool) [][]int {
	l := make([][]int, len(seats))
	for i, seat := range seats {
		for hand, h := range s.Hands {
			if h.Skills&seat == seat && isThere(hand) {
				l[i] = append(l[i], hand)
			}
		}
	}
	return l
}
