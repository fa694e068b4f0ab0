package crews

import (
	"slices"
	"sort"

	"coble/api"
	"coble/checks"
	"coble/lists"
)

// call is a call at a tick: from has, for each hand, the tick from which on it can be in a crew.
type call struct {
	station
	at   int
	from []int
}

// ready opens a station for a call, and checks all that is asked.
func ready(s api.Station, at int, seats []int, length, silent int) (call, api.Errno) {
	x, e := open(s)
	if e != api.OK {
		return call{}, e
	}
	if !inOrder(0, api.MaxCall, at) || !checks.Between(1, api.MaxShift)(length) || !checks.Between(0, api.MaxHands)(silent) {
		return call{}, api.ErrArg
	}
	if e := checkSeats(seats); e != api.OK {
		return call{}, e
	}
	return x.called(at, length), api.OK
}

func (s station) called(at, length int) call {
	c := call{station: s, at: at}
	for hand := range s.Hands {
		c.from = append(c.from, s.first(hand, at, length))
	}
	return c
}

// first returns the first tick at which a hand that is called is surely ready, and may serve for so long: MaxWait and a tick
// more after the call if there is none up to MaxWait. The Log is of ticks before any call, so that who may serve from a tick
// on may do so from each later one.
func (s station) first(hand, at, length int) int {
	away := s.Hands[hand].Away.High
	return at + away + sort.Search(api.MaxWait-away+1, func(n int) bool {
		return s.mayServe(hand, forTicks(at+away+n, length))
	})
}

// comes reports whether a hand has answered that it comes.
func (c call) comes(hand int) bool { return c.Hands[hand].Answer == api.Comes }

// muster returns the first tick at which a crew of such hands as come is complete, and the first of these crews.
func (c call) muster(seats []int, comes func(hand int) bool) (int, []int, bool) {
	for tick := c.at; tick <= c.at+api.MaxWait; tick++ {
		if tick > c.at && !slices.Contains(c.from, tick) {
			continue // nobody is there who was not there a tick before
		}
		isThere := func(hand int) bool { return c.from[hand] <= tick && comes(hand) }
		for who := range choices(c.places(seats, isThere)) {
			return tick, who, true
		}
	}
	return 0, nil, false
}

// lacks reports whether there is no crew for some seats.
func (c call) lacks(seats []int) bool {
	_, _, ok := c.muster(seats, c.comes)
	return !ok
}

// lacking returns the seats that are left when each one without which there is no crew, either, is taken away.
func (c call) lacking(seats []int) []int {
	return lists.Needed(len(seats), func(l []int) bool { return c.lacks(picked(seats, l)) })
}

// whoever returns the greatest tick at which a crew is complete without at most so many of the silent hands, and the first
// of the shortest lists of them without which it is.
func (c call) whoever(seats []int, most int) (int, []int, bool) {
	worst, missing := -1, []int(nil)
	silent := c.silent()
	for l := range lists.Shortest(len(silent)) {
		if len(l) > most {
			break
		}
		away := picked(silent, l)
		tick, _, ok := c.muster(seats, func(hand int) bool {
			return c.Hands[hand].Answer != api.Stays && !slices.Contains(away, hand)
		})
		if !ok {
			return 0, nil, false
		}
		if tick > worst {
			worst, missing = tick, away
		}
	}
	return worst, missing, true
}

// silent returns the hands that have not answered.
func (c call) silent() []int {
	var l []int
	for hand, h := range c.Hands {
		if h.Answer == api.Silent {
			l = append(l, hand)
		}
	}
	return l
}

// picked returns some elements of a list, by their indexes.
func picked[T any](l []T, indexes []int) []T {
	var some []T
	for _, i := range indexes {
		some = append(some, l[i])
	}
	return some
}
