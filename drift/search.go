package drift

import (
	"iter"
	"slices"

	"coble/api"
	"coble/checks"
	"coble/lists"
)

// search is a drifter on an open sea, with a sign for each of its sightings.
type search struct {
	*sea
	api.Drifter
	signs []sign
}

// sign is a condition on histories: in a tick they are in one of some places.
type sign struct {
	tick int
	in   places
}

// begin returns the search for a drifter that was seen, or was not.
func begin(d api.Drift, x api.Drifter, seen []api.Sighting) (search, api.Errno) {
	sea, e := open(d)
	if e != api.OK {
		return search{}, e
	}
	s := search{sea: sea, Drifter: x}
	if !s.hasDrifter() {
		return search{}, api.ErrDrifter
	}
	if len(seen) > api.MaxSightings || !checks.All(seen, s.isSighting) {
		return search{}, api.ErrSeen
	}
	for _, x := range seen {
		s.signs = append(s.signs, s.sign(x))
	}
	return s, api.OK
}

// beginAt also returns the sign of those histories that are in a cell in a tick.
func beginAt(d api.Drift, x api.Drifter, seen []api.Sighting, cell, tick int) (search, sign, api.Errno) {
	s, e := begin(d, x, seen)
	if e != api.OK {
		return search{}, sign{}, e
	}
	if !s.isPlace(cell) || !s.isLater(tick) {
		return search{}, sign{}, api.ErrArg
	}
	return s, sign{tick, only(cell)}, api.OK
}

func (s search) hasDrifter() bool {
	return s.isTick(s.At) && len(s.Cells) > 0 && s.areCells(s.Cells) && checks.Within(0, api.MaxLeeway)(s.Leeway)
}

func (s search) isSighting(x api.Sighting) bool { return s.isLater(x.Tick) && s.areCells(x.Cells) }

func (s search) areCells(l []int) bool { return checks.All(l, s.isCell) && checks.Ascends(l) }

// isLater reports whether a tick is one in which histories are somewhere.
func (s search) isLater(tick int) bool { return tick >= s.At && s.isTick(tick) }

func (s search) sign(x api.Sighting) sign {
	in := only(x.Cells...)
	if !x.Seen {
		in = s.everywhere().but(in)
	}
	return sign{x.Tick, in}
}

// everywhere returns all cells, and the outside.
func (s search) everywhere() places {
	p := only(outside)
	for cell := range s.Chart.Depth {
		p.add(cell)
	}
	return p
}

// tracks yields the leeways of the histories that agree with some signs; for each of them the places of these histories,
// in each tick from At on.
func (s search) tracks(signs []sign) iter.Seq2[int, []places] {
	return func(yield func(int, []places) bool) {
		for leeway := s.Leeway.Low; leeway <= s.Leeway.High; leeway++ {
			l := s.onward(leeway, signs)
			if l[len(l)-1].isEmpty() {
				continue
			}
			s.clear(leeway, l)
			if !yield(leeway, l) {
				return
			}
		}
	}
}

// onward returns for each tick the places that are reached by agreeing with the signs up to it.
func (s search) onward(leeway int, signs []sign) []places {
	l := slices.Repeat([]places{s.everywhere()}, s.lastTick()-s.At+1)
	for _, x := range signs {
		l[x.tick-s.At] = l[x.tick-s.At].and(x.in)
	}
	next := only(s.Cells...)
	for i := range l {
		l[i] = l[i].and(next)
		if i < len(l)-1 {
			next = s.allAfter(l[i], s.At+i, leeway)
		}
	}
	return l
}

func (s search) allAfter(from places, tick, leeway int) places {
	var p places
	for cell := range from.all() {
		p = p.or(s.after(moment{cell, tick, leeway}))
	}
	return p
}

// clear removes the places from which no history goes on, from the last tick back.
func (s search) clear(leeway int, l []places) {
	for i := len(l) - 2; i >= 0; i-- {
		var goOn places
		for cell := range l[i].all() {
			if !s.after(moment{cell, s.At + i, leeway}).and(l[i+1]).isEmpty() {
				goOn.add(cell)
			}
		}
		l[i] = goOn
	}
}

func (s search) isPossible(signs []sign) bool {
	for range s.tracks(signs) {
		return true
	}
	return false
}

// follow returns the cells of one of the histories with a leeway.
func (s search) follow(leeway int, l []places) []int {
	var cells []int
	next := l[0]
	for i := range l {
		cell := next.and(l[i]).list()[0]
		cells = append(cells, cell)
		if i < len(l)-1 {
			next = s.after(moment{cell, s.At + i, leeway})
		}
	}
	return cells
}

// blame returns the indexes of signs that rule out all histories of a kind that has some signs of its own: those that are
// left when one after the other is taken away as long as the others suffice.
func (s search) blame(kind ...sign) []int {
	return lists.Needed(len(s.signs), func(others []int) bool {
		signs := slices.Clone(kind)
		for _, i := range others {
			signs = append(signs, s.signs[i])
		}
		return !s.isPossible(signs)
	})
}
