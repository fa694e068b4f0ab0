package crews_test

import (
	"math"
	"math/rand/v2"
	"reflect"
	"slices"
	"testing"

	"coble/api"
	"coble/crews"
)

// asked is what a function answers: whether all its results but the error are zero values, and the error.
type asked struct {
	name string
	zero bool
	e    api.Errno
}

// good is a puzzle for which all functions with a station but Lacking have an answer.
func good() puzzle {
	return puzzle{s: station(), length: 3, silent: 1, seats: []int{1, 2}, shifts: []api.Span{span(0, 2), span(6, 8)}, hand: 1, tick: 6}
}

// stuck is a puzzle for which Muster, Whoever and Watch have no answer, so that Lacking has one.
func stuck() puzzle {
	p := good()
	p.seats = []int{2, 2, 2}
	return p
}

// ask calls all functions with a station.
func ask(p puzzle) []asked {
	e1 := crews.Check(p.s)
	n, e2 := crews.Spare(p.s, p.hand, p.tick)
	tick, who, e3 := crews.Muster(p.s, p.call, p.seats, p.length)
	lack, e4 := crews.Lacking(p.s, p.call, p.seats, p.length)
	worst, missing, e5 := crews.Whoever(p.s, p.call, p.seats, p.length, p.silent)
	watch, e6 := crews.Watch(p.s, p.seats, p.shifts)
	return []asked{
		{"Check", true, e1}, {"Spare", n == 0, e2}, {"Muster", tick == 0 && len(who) == 0, e3}, {"Lacking", len(lack) == 0, e4},
		{"Whoever", worst == 0 && len(missing) == 0, e5}, {"Watch", len(watch) == 0, e6},
	}
}

// askPages calls all functions with pages or drills.
func askPages(x story) []asked {
	answers, e1 := crews.Answers(x.hands, x.pages, x.tick)
	again, e2 := crews.Again(x.hands, x.pages, x.tick, x.every)
	current, e3 := crews.Current(x.hands, x.drills, x.good, x.tick)
	return []asked{{"Answers", len(answers) == 0, e1}, {"Again", len(again) == 0, e2}, {"Current", len(current) == 0, e3}}
}

// hold holds that some functions return one error and nothing else, and that no other one returns it.
func hold(t *testing.T, name string, all []asked, want api.Errno, who ...string) {
	t.Helper()
	for _, a := range all {
		if slices.Contains(who, a.name) != (a.e == want) || a.e != api.OK && !a.zero {
			t.Errorf("%s: %s: %d, zero %v", name, a.name, a.e, a.zero)
		}
	}
}

// holdFirst holds that some functions return one error and nothing else, whatever the other ones do.
func holdFirst(t *testing.T, name string, all []asked, want api.Errno, who ...string) {
	t.Helper()
	for _, a := range all {
		if slices.Contains(who, a.name) && (a.e != want || !a.zero) {
			t.Errorf("%s: %s: %d, zero %v", name, a.name, a.e, a.zero)
		}
	}
}

var (
	ofStation = []string{"Check", "Spare", "Muster", "Lacking", "Whoever", "Watch"}
	ofCall    = []string{"Muster", "Lacking", "Whoever"}
	ofSeats   = []string{"Muster", "Lacking", "Whoever", "Watch"}
	ofPages   = []string{"Answers", "Again"}
	ofTold    = []string{"Answers", "Again", "Current"}
)

// TestNoErrors: there is an answer for what is valid, and ErrNone where there is no crew, or no lack of one.
func TestNoErrors(t *testing.T) {
	hold(t, "a crew", ask(good()), api.ErrNone, "Lacking")
	hold(t, "a crew", ask(good()), api.OK, "Check", "Spare", "Muster", "Whoever", "Watch")
	hold(t, "no crew", ask(stuck()), api.ErrNone, "Muster", "Whoever", "Watch")
	hold(t, "no crew", ask(stuck()), api.OK, "Check", "Spare", "Lacking")
	hold(t, "pages", askPages(told()), api.OK, ofTold...)
}

// worse are ways to make something not valid, and who returns which error then.
type worse[T any] struct {
	name   string
	e      api.Errno
	who    []string
	change []func(x *T)
}

// numbers is worse if a number is one of some.
func numbers(name string, e api.Errno, who []string, set func(p *puzzle, n int), l ...int) worse[puzzle] {
	w := worse[puzzle]{name: name, e: e, who: who}
	for _, n := range append(l, math.MinInt, math.MaxInt) {
		w.change = append(w.change, func(p *puzzle) { set(p, n) })
	}
	return w
}

// worsen returns the errors of functions with a station in the order in which they are named.
func worsen() []worse[puzzle] {
	stations := worse[puzzle]{name: "station", e: api.ErrStation, who: ofStation}
	for _, s := range badStations() {
		stations.change = append(stations.change, func(p *puzzle) { p.s = s })
	}
	shifts := worse[puzzle]{name: "shifts", e: api.ErrArg, who: []string{"Watch"}}
	for _, l := range badShifts() {
		shifts.change = append(shifts.change, func(p *puzzle) { p.shifts = l })
	}
	many := worse[puzzle]{name: "many", e: api.ErrMany, who: ofSeats}
	for _, n := range []int{6, 7, 40} {
		many.change = append(many.change, func(p *puzzle) { p.seats = slices.Repeat(append(p.seats, 1)[:1], n) })
	}
	seats := worse[puzzle]{name: "seats", e: api.ErrSeat, who: ofSeats}
	for _, n := range []int{-1, 256, 257, math.MinInt, math.MaxInt} {
		seats.change = append(seats.change, func(p *puzzle) { p.seats = []int{n} }, func(p *puzzle) { p.seats = []int{1, 2, n} }, func(p *puzzle) { p.seats = []int{n, 1, 1, 2, 1} })
	}
	return []worse[puzzle]{
		stations,
		numbers("hand", api.ErrArg, []string{"Spare"}, func(p *puzzle, n int) { p.hand = n }, -1, 3, 4, 10),
		numbers("tick", api.ErrArg, []string{"Spare"}, func(p *puzzle, n int) { p.tick = n }, -1, 361, 400, 401),
		numbers("call", api.ErrArg, ofCall, func(p *puzzle, n int) { p.call = n }, -1, 101, 400),
		numbers("length", api.ErrArg, ofCall, func(p *puzzle, n int) { p.length = n }, -1, 0, 41),
		numbers("silent", api.ErrArg, []string{"Whoever"}, func(p *puzzle, n int) { p.silent = n }, -1, 11),
		shifts, many, seats,
	}
}

// badShifts are not valid, most of them only just.
func badShifts() [][]api.Span {
	return [][]api.Span{
		{span(-1, 3)}, {span(400, 401)}, {span(401, 401)}, {span(3, 2)}, {span(-1, -1)}, {span(0, 401)}, {span(math.MinInt, 1)}, {span(0, math.MaxInt)}, {span(math.MaxInt, math.MinInt)}, {span(1, 0)},
		{span(0, 3), span(3, 4)}, {span(0, 3), span(0, 3)}, {span(4, 5), span(0, 1)}, {span(0, 9), span(3, 4)}, {span(5, 9), span(1, 7)}, {span(0, 1), span(2, 3), span(3, 3)}, {span(0, 1), span(8, 9), span(4, 5)}, {span(0, 1), span(4, 3)},
		{span(0, 0), span(1, 1), span(2, 2), span(3, 3), span(4, 4)}, make([]api.Span, 5),
	}
}

// TestErrorsInOrder is R1: ErrStation, ErrArg, ErrMany, ErrSeat, ErrNone, each alone and with all that are named later.
func TestErrorsInOrder(t *testing.T) {
	for _, fresh := range []func() puzzle{good, stuck} {
		later := fresh()
		for _, w := range slices.Backward(worsen()) {
			for _, change := range w.change {
				one, more := fresh(), later
				change(&one)
				change(&more)
				hold(t, w.name, ask(one), w.e, w.who...)
				holdFirst(t, w.name+" and more", ask(more), w.e, w.who...)
			}
			w.change[0](&later)
		}
	}
}

// told is a story without errors.
func told() story { return story{3, pages(), drills(), eight(10), 5, 5} }

// worsenPages returns the errors of functions with pages in the order in which they are named.
func worsenPages() []worse[story] {
	hands, ticks := worse[story]{name: "hands", e: api.ErrArg, who: ofTold}, worse[story]{name: "tick", e: api.ErrArg, who: ofTold}
	for _, n := range []int{-1, 0, 11, math.MinInt, math.MaxInt} {
		hands.change = append(hands.change, func(x *story) { x.hands = n })
	}
	for _, n := range []int{-201, 401, math.MinInt, math.MaxInt} {
		ticks.change = append(ticks.change, func(x *story) { x.tick = n })
	}
	every, goods := worse[story]{name: "every", e: api.ErrArg, who: []string{"Again"}}, worse[story]{name: "good", e: api.ErrArg, who: []string{"Current"}}
	for _, n := range []int{-1, 0, 101, math.MinInt, math.MaxInt} {
		every.change = append(every.change, func(x *story) { x.every = n })
	}
	for _, n := range []int{0, 1, 7, 9} {
		goods.change = append(goods.change, func(x *story) { x.good = slices.Repeat([]int{10}, n) })
	}
	for _, n := range []int{-1, 401, math.MinInt, math.MaxInt} {
		for skill := range 8 {
			goods.change = append(goods.change, func(x *story) { x.good = slices.Concat(eight(3)[:skill], []int{n}, eight(400)[skill+1:]) })
		}
	}
	many, drilled := worse[story]{name: "many", e: api.ErrMany, who: ofPages}, worse[story]{name: "many drills", e: api.ErrMany, who: []string{"Current"}}
	for _, n := range []int{1, 2, 100} {
		many.change = append(many.change, func(x *story) { x.pages = append(twoHundred(page(0, 0, 1)), twoHundred(page(0, 1, 1))[:n]...) })
		drilled.change = append(drilled.change, func(x *story) { x.drills = make([]api.Drill, 200+n) })
	}
	paged, trained := worse[story]{name: "pages", e: api.ErrPage, who: ofPages}, worse[story]{name: "drills", e: api.ErrPage, who: []string{"Current"}}
	for _, l := range badPages() {
		paged.change = append(paged.change, func(x *story) { x.pages = l })
	}
	for _, l := range badDrills() {
		trained.change = append(trained.change, func(x *story) { x.drills = l })
	}
	return []worse[story]{hands, ticks, every, goods, many, drilled, paged, trained}
}

// TestErrorsOfPages is R1: ErrArg, ErrMany, ErrPage, each alone and with all that are named later.
func TestErrorsOfPages(t *testing.T) {
	later := told()
	for _, w := range slices.Backward(worsenPages()) {
		for _, change := range w.change {
			one, more := told(), later
			change(&one)
			change(&more)
			hold(t, w.name, askPages(one), w.e, w.who...)
			holdFirst(t, w.name+" and more", askPages(more), w.e, w.who...)
		}
		w.change[0](&later)
	}
	x := told()
	x.pages, x.drills = slices.Repeat([]api.Page{{Kind: 9}}, 201), slices.Repeat([]api.Drill{{Skill: 9}}, 201)
	hold(t, "too many that are not valid", askPages(x), api.ErrMany, ofTold...)
	x.pages, x.drills = x.pages[:200], x.drills[:200]
	hold(t, "as many that are not valid", askPages(x), api.ErrPage, ofTold...)
	x = told()
	x.hands = 1
	hold(t, "pages of a hand who is not there", askPages(x), api.ErrPage, ofTold...)
}

// TestNoHands: a station without hands is valid, but no hand is one of it.
func TestNoHands(t *testing.T) {
	p := puzzle{s: of(10, 6), length: 1, shifts: []api.Span{span(0, 0)}}
	hold(t, "no hands and no seats", ask(p), api.ErrArg, "Spare")
	hold(t, "no hands and no seats", ask(p), api.ErrNone, "Lacking")
	p.seats = []int{0}
	hold(t, "no hands", ask(p), api.ErrNone, "Muster", "Whoever", "Watch")
}

// TestNoPanic is P1: for arguments of all kinds each function returns, and with an error nothing else.
func TestNoPanic(t *testing.T) {
	r := rand.New(rand.NewPCG(18, 18))
	odd := []int{math.MinInt, -1 << 32, -201, -200, -2, -1, 0, 1, 2, 3, 4, 5, 7, 8, 10, 11, 40, 41, 60, 61, 100, 101, 200, 255, 256, 360, 361, 400, 401, 1 << 32, math.MaxInt}
	fine := 0
	for i := range 30000 {
		n := func() int { return odd[r.IntN(len(odd))] }
		if i%3 > 0 {
			n = func() int { return r.IntN(6) - 1 }
		}
		p := puzzle{s: station(), call: n(), length: n(), silent: n(), hand: n(), tick: n()}
		if r.IntN(3) == 0 {
			p.s.Window, p.s.Duty = n(), n()
		}
		if r.IntN(3) == 0 {
			p.s.Hands[r.IntN(3)] = hand(n(), n(), n(), n(), span(n(), n()), span(-n(), n()))
		}
		x := story{hands: n(), tick: n(), every: n(), good: eight(n())}
		for range r.IntN(4) {
			p.seats, p.shifts = append(p.seats, n()), append(p.shifts, span(n(), n()))
			x.pages, x.drills = append(x.pages, page(n(), n(), n())), append(x.drills, drill(n(), n(), n()))
		}
		bad := crews.Check(p.s)
		for _, a := range append(ask(p), askPages(x)...) {
			if a.e != api.OK && !a.zero || bad != api.OK && a.e != bad && !slices.Contains(ofTold, a.name) {
				t.Fatalf("%s(%v, %v): %d, zero %v, Check %d", a.name, p, x, a.e, a.zero, bad)
			}
			if a.e == api.OK {
				fine++
			}
		}
	}
	if fine < 30000 {
		t.Errorf("only %d answers", fine)
	}
}

// answers are all that the functions tell.
type answers struct {
	e                                         api.Errno
	spare, tick, worst                        int
	who, lack, missing, answer, again, skills []int
	watch                                     [][]int
}

func tell(p puzzle, x story) answers {
	a := answers{e: crews.Check(p.s)}
	a.spare, _ = crews.Spare(p.s, p.hand, p.tick)
	a.tick, a.who, _ = crews.Muster(p.s, p.call, p.seats, p.length)
	a.lack, _ = crews.Lacking(p.s, p.call, p.seats, p.length)
	a.worst, a.missing, _ = crews.Whoever(p.s, p.call, p.seats, p.length, p.silent)
	a.watch, _ = crews.Watch(p.s, p.seats, p.shifts)
	a.answer, _ = crews.Answers(x.hands, x.pages, x.tick)
	a.again, _ = crews.Again(x.hands, x.pages, x.tick, x.every)
	a.skills, _ = crews.Current(x.hands, x.drills, x.good, x.tick)
	return a
}

// lists are all lists of numbers in answers.
func (a answers) lists() [][]int {
	return append([][]int{a.who, a.lack, a.missing, a.answer, a.again, a.skills}, a.watch...)
}

// equals reports whether answers are the same; nil and empty ones are the same.
func (a answers) equals(b answers) bool {
	return a.e == b.e && a.spare == b.spare && a.tick == b.tick && a.worst == b.worst && same(a.lists(), b.lists())
}

// spare returns a copy that has memory behind its length.
func spare[T any](l []T, behind T) []T { return append(slices.Clone(l), behind)[:len(l)] }

// rested is the good puzzle with hands enough for its shifts: the same ones sit in both.
func rested() puzzle {
	p := good()
	p.s.Window, p.s.Duty = 20, 20
	return p
}

// TestMemory is R4: no argument is changed, also behind its length, no result shares memory with anything, and nothing is
// kept between calls.
func TestMemory(t *testing.T) {
	for _, fresh := range []func() puzzle{good, stuck, rested} {
		p, x, want := fresh(), told(), tell(fresh(), told())
		p.s.Hands, p.seats, p.shifts = spare(p.s.Hands, hand(77, 7, 7, 7)), spare(p.seats, 77), spare(p.shifts, span(77, 77))
		for i, h := range p.s.Hands {
			p.s.Hands[i].Log = spare(h.Log, span(77, 77))
		}
		x.pages, x.drills, x.good = spare(x.pages, page(77, 7, 7)), spare(x.drills, drill(77, 7, 7)), spare(x.good, 77)
		for range 2 {
			a := tell(p, x)
			if !a.equals(want) || a.e != api.OK || len(a.who)+len(a.lack) == 0 {
				t.Fatalf("%v, but before %v", a, want)
			}
			holdApart(t, a)
			for _, l := range a.lists() {
				for i := range l[:cap(l)] {
					l[:cap(l)][i] = -9
				}
			}
			clear(a.watch)
			for i, h := range p.s.Hands {
				if len(h.Log) == 0 {
					p.s.Hands[i].Log = nil
				}
			}
			if !reflect.DeepEqual(p, fresh()) || !reflect.DeepEqual(x, told()) {
				t.Fatalf("the arguments are now %v, %v", p, x)
			}
			if p.s.Hands[:4][3].Answer != 7 || p.seats[:len(p.seats)+1][len(p.seats)] != 77 || p.shifts[:len(p.shifts)+1][len(p.shifts)].Low != 77 || p.s.Hands[1].Log[:2][1].Low != 77 {
				t.Fatal("something behind the arguments was changed")
			}
			if x.pages[:7][6].Kind != 7 || x.drills[:3][2].Skill != 7 || x.good[:9][8] != 77 {
				t.Fatal("something behind the pages was changed")
			}
		}
	}
}

// holdApart holds that no two lists share memory.
func holdApart(t *testing.T, a answers) {
	t.Helper()
	l := a.lists()
	for i := range l {
		for k := range l {
			if i != k && len(l[i]) > 0 && len(l[k]) > 0 {
				was := l[k][0]
				if l[i][0]++; l[k][0] != was {
					t.Errorf("the lists %d and %d share memory", i, k)
				}
				l[i][0]--
			}
		}
	}
}

// TestNothingKept: what is changed between two calls is asked anew.
func TestNothingKept(t *testing.T) {
	p, x := good(), told()
	for range 2 {
		for _, n := range []int{3, 8, 5} {
			change := func(p *puzzle, x *story) {
				p.s.Hands[1].Log[0].Low, p.s.Hands[0].Away.High, p.s.Duty = -n, n, n
				x.pages[2].Kind, x.drills[1].Skill, x.good[0] = 2+n%2, n%8, n
			}
			change(&p, &x)
			q, y := good(), told()
			change(&q, &y)
			if a, want := tell(p, x), tell(q, y); !a.equals(want) || a.e != api.OK {
				t.Errorf("with %d: %v, not %v", n, a, want)
			}
		}
	}
}

// TestNilAndEmpty is R3.
func TestNilAndEmpty(t *testing.T) {
	p, x := good(), told()
	p.s.Hands[0].Log, p.seats, p.shifts, x.pages, x.drills = nil, nil, nil, nil, nil
	want := tell(p, x)
	p.s.Hands[0].Log, p.seats, p.shifts, x.pages, x.drills = []api.Span{}, []int{}, []api.Span{}, []api.Page{}, []api.Drill{}
	if a := tell(p, x); !a.equals(want) || a.e != api.OK || !slices.Equal(a.again, []int{0, 1, 2}) || !slices.Equal(a.skills, []int{0, 0, 0}) {
		t.Errorf("%v, not %v", a, want)
	}
	for _, hands := range [][]api.Hand{nil, {}} {
		p.s.Hands = hands
		hold(t, "no hands", ask(p), api.ErrArg, "Spare")
		hold(t, "no hands", ask(p), api.OK, "Check", "Muster", "Whoever", "Watch")
	}
	for _, good := range [][]int{nil, {}} {
		x.good = good
		hold(t, "no numbers for the skills", askPages(x), api.ErrArg, "Current")
	}
}
