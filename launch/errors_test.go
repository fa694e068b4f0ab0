package launch_test

import (
	"math"
	"math/rand/v2"
	"reflect"
	"slices"
	"testing"

	"coble/api"
	"coble/launch"
)

// asked is what a function answers: whether all its results but the error are zero values, and the error.
type asked struct {
	name string
	zero bool
	e    api.Errno
}

// task is a puzzle with what the other functions are asked.
type task struct {
	puzzle
	classes []api.Class
	people  int
	loads   []api.Load
}

// good is a task without errors.
func good() task {
	return task{first(), rafts(6, 10, 4, 10), 21, []api.Load{load(20, 30, 20), load(10, 30, 30)}}
}

// ask calls all functions but Check.
func ask(x task) []asked {
	open, e1 := launch.Open(x.c, x.b, x.r)
	reach, e2 := launch.Reach(x.c, x.b, x.r, x.tick)
	reason, v, e3 := launch.Go(x.c, x.b, x.r, x.tick, x.fuel, x.k)
	round, e4 := launch.Round(x.c, x.b, x.r, x.tick, x.fuel, x.k.Stay)
	board, e5 := launch.Board(x.classes, x.people)
	sure, may, e6 := launch.Rights(x.b, x.loads)
	shed, e7 := launch.Shed(x.b, x.loads)
	return []asked{
		{"Open", len(open) == 0, e1}, {"Reach", len(reach) == 0, e2}, {"Go", reason == 0 && len(v.Cells) == 0 && v.Burns == 0, e3}, {"Round", len(round) == 0, e4},
		{"Board", len(board) == 0, e5}, {"Rights", !sure && !may, e6}, {"Shed", len(shed) == 0, e7},
	}
}

// answer holds that some functions return one error and nothing else, and that no other one returns it.
func answer(t *testing.T, name string, x task, want api.Errno, who ...string) {
	t.Helper()
	for _, a := range ask(x) {
		if slices.Contains(who, a.name) != (a.e == want) || a.e != api.OK && !a.zero {
			t.Errorf("%s: %s: %d, zero %v", name, a.name, a.e, a.zero)
		}
	}
}

var (
	ofCharts = []string{"Open", "Reach", "Go", "Round"}
	ofTicks  = []string{"Reach", "Go", "Round"}
	ofFuel   = []string{"Go", "Round"}
	ofLoads  = []string{"Rights", "Shed"}
)

// TestErrorsInOrder is R1: ErrChart, ErrClass, ErrRamp, ErrArg, ErrTask, each alone and with all that are named later.
func TestErrorsInOrder(t *testing.T) {
	later := good()
	for _, w := range slices.Backward(worsen()) {
		for _, change := range w.change {
			one, more := good(), later
			change(&one)
			change(&more)
			answer(t, w.name, one, w.e, w.who...)
			answer(t, w.name+" and more", more, w.e, w.who...)
		}
		w.change[0](&later)
	}
}

// worse are ways to make a task not valid, and who returns which error then.
type worse struct {
	name   string
	e      api.Errno
	who    []string
	change []func(x *task)
}

// worsen returns the errors of the functions with a chart, in the order in which they are named.
func worsen() []worse {
	l := []worse{{name: "chart", e: api.ErrChart, who: ofCharts}, {name: "class", e: api.ErrClass}, {name: "ramp", e: api.ErrRamp, who: ofCharts}}
	l[1].who = append(slices.Clone(ofCharts), ofLoads...)
	for _, c := range badCharts() {
		l[0].change = append(l[0].change, func(x *task) { x.c = c })
	}
	for _, b := range badClasses() {
		l[1].change = append(l[1].change, func(x *task) { x.b = b })
	}
	for _, r := range badRamps() {
		l[2].change = append(l[2].change, func(x *task) { x.r = r })
	}
	tick, fuel := worse{name: "tick", e: api.ErrArg, who: ofTicks}, worse{name: "fuel", e: api.ErrArg, who: ofFuel}
	for _, n := range []int{-1, 5, 60, math.MinInt, math.MaxInt} {
		tick.change = append(tick.change, func(x *task) { x.tick = n })
	}
	for _, n := range []int{-1, 5001, math.MinInt, math.MaxInt} {
		fuel.change = append(fuel.change, func(x *task) { x.fuel = n })
	}
	cell, stay := worse{name: "cell", e: api.ErrTask, who: []string{"Go"}}, worse{name: "stay", e: api.ErrTask, who: ofFuel}
	for _, n := range []int{-1, 12, 144, math.MinInt, math.MaxInt} {
		cell.change = append(cell.change, func(x *task) { x.k.Cell = n })
	}
	for _, n := range []int{-1, 9, math.MinInt, math.MaxInt} {
		stay.change = append(stay.change, func(x *task) { x.k.Stay = n })
	}
	// The cell comes last, as Round is not asked for one.
	return []worse{l[0], l[1], l[2], tick, fuel, stay, cell}
}

// TestErrorsAreNoReasons: what is not valid is so also where the boat is not launched, or is not asked to leave.
func TestErrorsAreNoReasons(t *testing.T) {
	x := good()
	x.b.Seas = 4
	x.k.Cell = 12
	answer(t, "not launched to no cell", x, api.ErrTask, "Go")
	x.k = api.Task{Stay: 9}
	answer(t, "not launched for too long", x, api.ErrTask, "Go", "Round")
	x.k, x.fuel = api.Task{}, 5001
	answer(t, "not launched with too much fuel", x, api.ErrArg, "Go", "Round")
	x.fuel = -1
	answer(t, "not launched with less than no fuel", x, api.ErrArg, "Go", "Round")
}

// TestErrorsOfBoard is P5.6: ErrMany, ErrClass, ErrArg, ErrNone.
func TestErrorsOfBoard(t *testing.T) {
	few := rafts(6, 10)
	for i, x := range []struct {
		classes []api.Class
		people  int
		want    api.Errno
	}{
		{make([]api.Class, 11), -1, api.ErrMany}, {rafts(slices.Repeat([]int{6}, 11)...), 1, api.ErrMany}, {make([]api.Class, 10), -1, api.ErrClass}, {[]api.Class{few[0], {}}, 3, api.ErrClass},
		{[]api.Class{{}, few[0]}, 99, api.ErrClass}, {few, -1, api.ErrArg}, {few, math.MinInt, api.ErrArg}, {nil, -1, api.ErrArg}, {few, 17, api.ErrNone}, {few, math.MaxInt, api.ErrNone}, {nil, 1, api.ErrNone},
	} {
		if l, e := launch.Board(x.classes, x.people); e != x.want || len(l) > 0 {
			t.Errorf("%d: Board = %v, %d", i, l, e)
		}
	}
	for _, b := range badClasses() {
		if l, e := launch.Board(append(rafts(6, 10), b), 17); e != api.ErrClass || len(l) > 0 {
			t.Errorf("Board with %v = %v, %d", b, l, e)
		}
	}
}

// TestErrorsOfLoads is P5.7 and P5.8: ErrClass, ErrMany, ErrLoad.
func TestErrorsOfLoads(t *testing.T) {
	for _, l := range badLoads() {
		x := good()
		x.loads = l
		answer(t, "load", x, api.ErrLoad, ofLoads...)
	}
	for _, l := range [][]api.Load{make([]api.Load, 11), slices.Repeat([]api.Load{load(1, 0, 0)}, 11)} {
		x := good()
		x.loads = l
		answer(t, "loads", x, api.ErrMany, ofLoads...)
		x.b.Moment = -1
		for _, a := range ask(x) {
			if slices.Contains(ofLoads, a.name) && a.e != api.ErrClass {
				t.Errorf("%s of no class: %d", a.name, a.e)
			}
		}
	}
}

// TestNoPanic is P1: for arguments of all kinds each function returns, and with an error nothing else.
func TestNoPanic(t *testing.T) {
	r := rand.New(rand.NewPCG(16, 16))
	odd := []int{math.MinInt, -1 << 32, -2, -1, 0, 1, 2, 3, 4, 5, 8, 9, 11, 12, 40, 41, 50, 51, 60, 61, 100, 101, 200, 201, 1000, 5000, 5001, 1000000, 1 << 32, math.MaxInt}
	charts := []api.Chart{{}, sea(), calm(1, 1, 5, 1), calm(3, 2, 50, 4), {Wide: math.MaxInt, High: math.MaxInt}, {Wide: math.MinInt, High: -1}, {Wide: 1, High: 1, Depth: []int{0}}}
	fine := 0
	for i := range 20000 {
		n := func() int { return odd[r.IntN(len(odd))] }
		if i%3 > 0 {
			n = func() int { return r.IntN(9) - 1 }
		}
		x := good()
		if r.IntN(3) == 0 {
			x.c = charts[r.IntN(len(charts))]
		}
		if r.IntN(3) == 0 {
			x.b = api.Class{Draught: n(), Seas: n(), Move: n(), Idle: n(), Reserve: n(), Seats: n(), Moment: n()}
		}
		if r.IntN(3) == 0 {
			x.r = api.Ramp{Cell: n(), Draught: n(), Least: n(), Most: n(), Surf: n()}
		}
		x.tick, x.fuel, x.k, x.people = n(), n(), api.Task{Cell: n(), Stay: n()}, n()
		for range r.IntN(4) {
			x.loads = append(x.loads, load(n(), n(), n()))
			x.classes = append(x.classes, api.Class{Draught: n(), Move: n(), Seats: n()})
		}
		bad := launch.Check(x.b)
		for _, a := range ask(x) {
			if a.e != api.OK && !a.zero || bad != api.OK && a.e == api.OK && a.name != "Board" {
				t.Fatalf("%s(%v): %d, zero %v, Check %d", a.name, x, a.e, a.zero, bad)
			}
			if a.e == api.OK {
				fine++
			}
		}
	}
	if fine < 20000 {
		t.Errorf("only %d answers", fine)
	}
}

// answers are all that the functions tell of a task.
type answers struct {
	open                      []api.Span
	reach, round, board, shed []int
	reason                    int
	voyage                    api.Voyage
	sure, may                 bool
}

func tell(x task) answers {
	var a answers
	a.open, _ = launch.Open(x.c, x.b, x.r)
	a.reach, _ = launch.Reach(x.c, x.b, x.r, x.tick)
	a.reason, a.voyage, _ = launch.Go(x.c, x.b, x.r, x.tick, x.fuel, x.k)
	a.round, _ = launch.Round(x.c, x.b, x.r, x.tick, x.fuel, x.k.Stay)
	a.board, _ = launch.Board(x.classes, x.people)
	a.sure, a.may, _ = launch.Rights(x.b, x.loads)
	a.shed, _ = launch.Shed(x.b, x.loads)
	return a
}

// spare returns a copy that has memory behind its length.
func spare[T any](l []T, behind T) []T { return append(slices.Clone(l), behind)[:len(l)] }

// stormy is the task of the examples with a swell at the end that the boat cannot stand.
func stormy() task {
	x := good()
	x.c.Tide, x.c.Swell = append(x.c.Tide, span(10, 14)), append(x.c.Swell, 6)
	return x
}

// TestMemory is R4: no argument is changed, also behind its length, no result shares memory with anything, and nothing is
// kept between calls.
func TestMemory(t *testing.T) {
	x, want := stormy(), tell(stormy())
	x.c.Depth, x.c.Tide, x.c.Swell = spare(x.c.Depth, 77), spare(x.c.Tide, span(77, 77)), spare(x.c.Swell, 77)
	x.classes, x.loads = spare(x.classes, api.Class{Draught: 77}), spare(x.loads, load(77, 77, 77))
	for range 2 {
		a := tell(x)
		if !reflect.DeepEqual(a, want) || a.reason != 0 {
			t.Fatalf("%v, but before %v", a, want)
		}
		for _, l := range [][]int{a.reach, a.round, a.board, a.shed, a.voyage.Cells} {
			for i := range l[:cap(l)] {
				l[:cap(l)][i] = -9
			}
		}
		for i := range a.open[:cap(a.open)] {
			a.open[:cap(a.open)][i] = span(-9, -9)
		}
		if !reflect.DeepEqual(x, stormy()) {
			t.Fatalf("the arguments are now %v", x)
		}
		if x.c.Depth[:13][12] != 77 || x.c.Tide[:7][6].Low != 77 || x.c.Swell[:7][6] != 77 || x.classes[:5][4].Draught != 77 || x.loads[:3][2].Height != 77 {
			t.Fatal("something behind the arguments was changed")
		}
	}
}

// TestNothingKept: a chart that is changed between two calls is asked anew.
func TestNothingKept(t *testing.T) {
	x := good()
	x.c = copied(x.c)
	for range 2 {
		for _, swell := range []int{5, 6, 4} {
			x.c.Swell[2] = swell
			fresh := good()
			fresh.c = copied(x.c)
			if a, want := tell(x), tell(fresh); !reflect.DeepEqual(a, want) || (a.reason == 0) != (swell < 6) {
				t.Errorf("with %d: %v, not %v", swell, a, want)
			}
		}
	}
}

// TestNilAndEmpty is R3.
func TestNilAndEmpty(t *testing.T) {
	x := good()
	x.classes, x.people, x.loads = nil, 0, nil
	want := tell(x)
	x.classes, x.loads = []api.Class{}, []api.Load{}
	if a := tell(x); !reflect.DeepEqual(a, want) || len(a.board) > 0 || !a.sure || len(a.shed) > 0 {
		t.Errorf("%v, not %v", a, want)
	}
	x.c.Depth, x.c.Tide, x.c.Swell = []int{}, []api.Span{}, []int{}
	answer(t, "an empty chart", x, api.ErrChart, ofCharts...)
}
