package drift

import (
	"coble/api"
	"coble/checks"
)

// person is a drifter with a body.
type person struct {
	search
	api.Body
}

// losses tells of all possible histories, by where they are in one tick, what has been lost before it: at least, and at most.
type losses map[moment]api.Span

func (p person) hasBody() bool {
	return len(p.Costs) == len(p.Currents) && checks.All(p.Costs, checks.Within(0, api.MaxCost)) &&
		checks.Within(0, api.MaxStrength)(p.Strength)
}

// lost returns for each tick from At on what has been lost before it in all possible histories; nothing, if there are none.
func (p person) lost() []api.Span {
	tracks, now := map[int][]places{}, losses{}
	for leeway, l := range p.tracks(p.signs) {
		tracks[leeway] = l
		for cell := range l[0].all() {
			now[moment{cell, p.At, leeway}] = api.Span{}
		}
	}
	var l []api.Span
	for len(now) > 0 {
		l = append(l, now.total())
		now = p.loses(now, tracks)
	}
	return l
}

// loses returns the losses before the next tick; none after the last one.
func (p person) loses(now losses, tracks map[int][]places) losses {
	next := losses{}
	for m, lost := range now {
		if m.tick == p.lastTick() {
			continue
		}
		cost := p.cost(m.cell)
		lost = api.Span{Low: lost.Low + cost.Low, High: lost.High + cost.High}
		for cell := range p.after(m).and(tracks[m.leeway][m.tick+1-p.At]).all() {
			next.add(moment{cell, m.tick + 1, m.leeway}, lost)
		}
	}
	return next
}

// cost returns what is lost in a tick in a cell: nothing outside.
func (p person) cost(cell int) api.Span {
	if cell == outside {
		return api.Span{}
	}
	return p.Costs[p.Zones[cell]]
}

func (l losses) add(m moment, lost api.Span) {
	if old, ok := l[m]; ok {
		lost = join(old, lost)
	}
	l[m] = lost
}

// total returns the losses of all histories together.
func (l losses) total() api.Span {
	all := api.Span{Low: api.MaxCost * api.MaxTicks}
	for _, lost := range l {
		all = join(all, lost)
	}
	return all
}

// join returns the span from the least number to the greatest one.
func join(a, b api.Span) api.Span {
	return api.Span{Low: min(a.Low, b.Low), High: max(a.High, b.High)}
}

// alive returns the last tick before which what was lost was not too much.
func (p person) alive(lost []api.Span, isEnough func(api.Span) bool) int {
	last := p.At - 1
	for _, l := range lost {
		if !isEnough(l) {
			break
		}
		last++
	}
	return last
}

// surely reports whether someone is alive with all losses and with each strength.
func (p person) surely(lost api.Span) bool { return lost.High < p.Strength.Low }

// maybe reports whether someone is alive with some of the losses and with some strength.
func (p person) maybe(lost api.Span) bool { return lost.Low < p.Strength.High }
