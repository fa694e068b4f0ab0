package crews_test

import (
	"math/rand/v2"
	"slices"
	"testing"

	"coble/api"
	"coble/crews"
)

func span(low, high int) api.Span { return api.Span{Low: low, High: high} }

func hand(skills, low, high, answer int, log ...api.Span) api.Hand {
	return api.Hand{Skills: skills, Away: span(low, high), Answer: answer, Log: log}
}

// comes is a hand that comes at once.
func comes(skills int, log ...api.Span) api.Hand { return hand(skills, 0, 0, api.Comes, log...) }

// silent is a hand that has not answered, and is there so many ticks after the call.
func silent(skills, away int) api.Hand { return hand(skills, 0, away, api.Silent) }

// station is the station S of the chapter's examples.
func station() api.Station {
	return of(10, 6, hand(3, 2, 4, api.Comes), hand(1, 1, 8, api.Comes, span(-4, -1)), hand(2, 3, 5, api.Silent))
}

func of(window, duty int, hands ...api.Hand) api.Station {
	return api.Station{Window: window, Duty: duty, Hands: hands}
}

func copied(s api.Station) api.Station {
	s.Hands = slices.Clone(s.Hands)
	for i, h := range s.Hands {
		s.Hands[i].Log = slices.Clone(h.Log)
	}
	return s
}

// answered returns a copy of a station in which some hands have one answer.
func answered(s api.Station, answer int, hands ...int) api.Station {
	s = copied(s)
	for _, i := range hands {
		s.Hands[i].Answer = answer
	}
	return s
}

// quiet returns the hands that have not answered.
func quiet(s api.Station) []int {
	var l []int
	for i, h := range s.Hands {
		if h.Answer == api.Silent {
			l = append(l, i)
		}
	}
	return l
}

func page(tick, hand, kind int) api.Page { return api.Page{Tick: tick, Hand: hand, Kind: kind} }

func drill(tick, hand, skill int) api.Drill { return api.Drill{Tick: tick, Hand: hand, Skill: skill} }

// pages are the pages P of the chapter's examples.
func pages() []api.Page {
	return []api.Page{page(0, 0, api.Sent), page(1, 1, api.Sent), page(2, 0, api.Heard), page(3, 2, api.Heard), page(4, 1, api.Refused), page(5, 0, api.Sent)}
}

// drills are those of the chapter's examples.
func drills() []api.Drill { return []api.Drill{drill(0, 0, 0), drill(3, 1, 2)} }

// eight is a number for each skill.
func eight(n int) []int { return slices.Repeat([]int{n}, 8) }

// puzzle is a station, and what is asked of it.
type puzzle struct {
	s                    api.Station
	call, length, silent int
	seats                []int
	shifts               []api.Span
	hand, tick           int
}

// size is how large puzzles are.
type size struct {
	hands, seats, shifts, window, length, skills int
}

// puzzles returns stations that look random and are the same in every run.
func puzzles(seed uint64, n int, of size) []puzzle {
	r := rand.New(rand.NewPCG(seed, 7))
	var l []puzzle
	for range n {
		p := puzzle{s: someStation(r, of), call: r.IntN(1 + r.IntN(20)), length: 1 + r.IntN(of.length), silent: r.IntN(4)}
		for range r.IntN(of.seats + 1) {
			p.seats = append(p.seats, r.IntN(1<<of.skills)&r.IntN(1<<of.skills))
		}
		tick := r.IntN(8)
		for range r.IntN(of.shifts + 1) {
			last := tick + r.IntN(of.length)
			p.shifts = append(p.shifts, span(tick, last))
			tick = last + 1 + r.IntN(4)
		}
		p.hand, p.tick = r.IntN(len(p.s.Hands)), r.IntN(1+r.IntN(40))
		l = append(l, p)
	}
	return l
}

func someStation(r *rand.Rand, of size) api.Station {
	s := api.Station{Window: 1 + r.IntN(of.window)}
	s.Duty = s.Window - r.IntN(s.Window+1)*r.IntN(4)/3
	for range 1 + r.IntN(of.hands) {
		low := r.IntN(1 + r.IntN(30))
		h := hand(r.IntN(1<<of.skills)|r.IntN(1<<of.skills), low, low+r.IntN(1+r.IntN(30)), []int{0, 0, 1, 1, 1, 2}[r.IntN(6)])
		for first := -1 - r.IntN(of.window); len(h.Log) < 10; {
			last := first + r.IntN(4)
			if last >= 0 {
				break
			}
			h.Log = append(h.Log, span(first, last))
			first = last + 1 + r.IntN(4)
		}
		s.Hands = append(s.Hands, h)
	}
	return s
}

// small are puzzles that are tried out one by one.
func small(seed uint64) []puzzle {
	return puzzles(seed, 1500, size{hands: 5, seats: 3, shifts: 3, window: 16, length: 6, skills: 3})
}

// large are puzzles up to the limits.
func large(seed uint64, n int) []puzzle {
	return puzzles(seed, n, size{hands: 10, seats: 5, shifts: 4, window: 100, length: 40, skills: 6})
}

// story is what the pagers of some hands have told, and what is asked of it.
type story struct {
	hands       int
	pages       []api.Page
	drills      []api.Drill
	good        []int
	tick, every int
}

// stories returns pages and drills that look random and are the same in every run.
func stories(seed uint64, n int) []story {
	r := rand.New(rand.NewPCG(seed, 70))
	var l []story
	for range n {
		x := story{hands: 1 + r.IntN(4), every: 1 + r.IntN(8)}
		tick := r.IntN(12) - 6
		for range r.IntN(12) {
			x.pages = append(x.pages, page(tick, r.IntN(x.hands), []int{1, 1, 2, 3}[r.IntN(4)]))
			x.drills = append(x.drills, drill(tick, r.IntN(x.hands), r.IntN(8)))
			tick += r.IntN(3)
		}
		for range 8 {
			x.good = append(x.good, r.IntN(12))
		}
		x.tick = tick + 3 - r.IntN(12)
		l = append(l, x)
	}
	return l
}

// mustSpare and the others below return results that have to come without an error.
func mustSpare(t *testing.T, s api.Station, hand, tick int) int {
	t.Helper()
	n, e := crews.Spare(s, hand, tick)
	if e != api.OK {
		t.Fatalf("Spare(%v, %d, %d) = %d, %d", s, hand, tick, n, e)
	}
	return n
}

func mustAnswers(t *testing.T, hands int, l []api.Page, tick int) []int {
	t.Helper()
	answers, e := crews.Answers(hands, l, tick)
	if e != api.OK || len(answers) != hands {
		t.Fatalf("Answers(%d, %v, %d) = %v, %d", hands, l, tick, answers, e)
	}
	return answers
}

func mustAgain(t *testing.T, hands int, l []api.Page, tick, every int) []int {
	t.Helper()
	again, e := crews.Again(hands, l, tick, every)
	if e != api.OK {
		t.Fatalf("Again(%d, %v, %d, %d) = %v, %d", hands, l, tick, every, again, e)
	}
	return again
}

func mustCurrent(t *testing.T, hands int, l []api.Drill, good []int, tick int) []int {
	t.Helper()
	sets, e := crews.Current(hands, l, good, tick)
	if e != api.OK || len(sets) != hands {
		t.Fatalf("Current(%d, %v, %v, %d) = %v, %d", hands, l, good, tick, sets, e)
	}
	return sets
}

// tryMuster reports whether there is a crew, and which is the first one.
func tryMuster(t *testing.T, s api.Station, call int, seats []int, length int) (int, []int, bool) {
	t.Helper()
	tick, who, e := crews.Muster(s, call, seats, length)
	if e == api.OK && len(who) != len(seats) || e != api.OK && (e != api.ErrNone || tick != 0 || len(who) > 0) {
		t.Fatalf("Muster(%v, %d, %v, %d) = %d, %v, %d", s, call, seats, length, tick, who, e)
	}
	return tick, who, e == api.OK
}

func (p puzzle) muster(t *testing.T) (int, []int, bool) {
	t.Helper()
	return tryMuster(t, p.s, p.call, p.seats, p.length)
}

// lacking reports whether there is no crew, and so seats that are lacking.
func (p puzzle) lacking(t *testing.T) ([]int, bool) {
	t.Helper()
	l, e := crews.Lacking(p.s, p.call, p.seats, p.length)
	if e != api.OK && (e != api.ErrNone || len(l) > 0) {
		t.Fatalf("Lacking(%v, %d, %v, %d) = %v, %d", p.s, p.call, p.seats, p.length, l, e)
	}
	return l, e == api.OK
}

func (p puzzle) whoever(t *testing.T) (int, []int, bool) {
	t.Helper()
	tick, missing, e := crews.Whoever(p.s, p.call, p.seats, p.length, p.silent)
	if e != api.OK && (e != api.ErrNone || tick != 0 || len(missing) > 0) {
		t.Fatalf("Whoever(%v, %d, %v, %d, %d) = %d, %v, %d", p.s, p.call, p.seats, p.length, p.silent, tick, missing, e)
	}
	return tick, missing, e == api.OK
}

// watch reports whether all shifts can be filled, and by whom.
func (p puzzle) watch(t *testing.T) ([][]int, bool) {
	t.Helper()
	l, e := crews.Watch(p.s, p.seats, p.shifts)
	if e == api.OK && len(l) != len(p.shifts) || e != api.OK && (e != api.ErrNone || len(l) > 0) {
		t.Fatalf("Watch(%v, %v, %v) = %v, %d", p.s, p.seats, p.shifts, l, e)
	}
	return l, e == api.OK
}

// same reports whether lists are the same, nil and empty ones too.
func same(a, b [][]int) bool { return slices.EqualFunc(a, b, slices.Equal) }
