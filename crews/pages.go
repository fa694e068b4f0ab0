package crews

import (
	"slices"

	"coble/api"
	"coble/checks"
)

// kinds returns the answer that each kind of page leads to.
func kinds() map[int]int {
	return map[int]int{api.Sent: api.Silent, api.Heard: api.Comes, api.Refused: api.Stays}
}

func areHands(hands int) bool { return checks.Between(1, api.MaxHands)(hands) }

// checkPages returns what is wrong with the pages of some hands.
func checkPages(hands int, l []api.Page) api.Errno {
	if len(l) > api.MaxPages {
		return api.ErrMany
	}
	known := kinds()
	var ticks []int
	for _, p := range l {
		if _, ok := known[p.Kind]; !ok || !isHandOf(hands, p.Hand) {
			return api.ErrPage
		}
		ticks = append(ticks, p.Tick)
	}
	if !inOrder(-api.MaxPast, api.MaxAhead, ticks...) {
		return api.ErrPage
	}
	return api.OK
}

// checkDrills returns what is wrong with the drills of some hands, which need not be in order.
func checkDrills(hands int, l []api.Drill) api.Errno {
	if len(l) > api.MaxPages {
		return api.ErrMany
	}
	if !checks.All(l, func(d api.Drill) bool {
		return isHandOf(hands, d.Hand) && checks.Between(0, skills-1)(d.Skill) && isTick(d.Tick)
	}) {
		return api.ErrPage
	}
	return api.OK
}

// upTo returns the pages up to a tick.
func upTo(tick int, l []api.Page) []api.Page {
	if behind := slices.IndexFunc(l, func(p api.Page) bool { return p.Tick > tick }); behind >= 0 {
		return l[:behind]
	}
	return l
}

// answers returns the answer of each hand after some pages. What a hand answers before it is called does not count.
func answers(hands int, l []api.Page) []int {
	answer := kinds()
	called, all := make([]bool, hands), make([]int, hands)
	for _, p := range l {
		called[p.Hand] = called[p.Hand] || p.Kind == api.Sent
		if called[p.Hand] {
			all[p.Hand] = answer[p.Kind]
		}
	}
	return all
}

// again returns the hands that are silent after some pages, of which none has been sent to them since a tick.
func again(hands int, l []api.Page, since int) []int {
	var due []int
	for hand, answer := range answers(hands, l) {
		sent := slices.ContainsFunc(l, func(p api.Page) bool {
			return p.Hand == hand && p.Kind == api.Sent && p.Tick > since
		})
		if answer == api.Silent && !sent {
			due = append(due, hand)
		}
	}
	return due
}

// current returns, for each hand, the set of the skills of which there is a drill that still counts.
func current(hands int, l []api.Drill, good []int, tick int) []int {
	sets := make([]int, hands)
	for _, d := range l {
		if d.Tick <= tick && tick-d.Tick < good[d.Skill] {
			sets[d.Hand] |= 1 << d.Skill
		}
	}
	return sets
}
