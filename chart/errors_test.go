package chart_test

import (
	"math"
	"math/rand/v2"
	"slices"
	"testing"

	"coble/api"
	"coble/chart"
)

// args are the arguments that the functions have besides the chart.
type args struct {
	cell, other, direction, draught, tick, until int
}

// asked is what a function answers: whether all its results but the error are zero values, the error, and whether its
// arguments are valid.
type asked struct {
	name  string
	zero  bool
	e     api.Errno
	valid bool
}

// ask calls all functions whose arguments may be ErrArg.
func ask(c api.Chart, a args) []asked {
	within := func(n, low, high int) bool { return n >= low && n <= high }
	cell, other := within(a.cell, 0, len(c.Depth)-1), within(a.other, 0, len(c.Depth)-1)
	tick, until := within(a.tick, 0, len(c.Tide)-1), within(a.until, 0, len(c.Tide)-1)
	draught := within(a.draught, 1, 100)
	next, e1 := chart.Next(c, a.cell, a.direction)
	apart, e2 := chart.Apart(c, a.cell, a.other)
	water, e3 := chart.Water(c, a.cell, a.tick)
	sure, may, e4 := chart.Floats(c, a.draught, a.cell, a.tick)
	arrive, e5 := chart.Arrive(c, a.draught, a.cell, a.tick)
	passage, e6 := chart.Passage(c, a.draught, a.cell, a.tick, a.other)
	depart, e7 := chart.Depart(c, a.draught, a.cell, a.tick)
	moves, e8 := chart.Moves(c, a.draught, a.cell, a.tick, a.until)
	return []asked{
		{"Next", next == 0, e1, cell && within(a.direction, 0, 5)},
		{"Apart", apart == 0, e2, cell && other},
		{"Water", water == api.Span{}, e3, cell && tick},
		{"Floats", !sure && !may, e4, draught && cell && tick},
		{"Arrive", len(arrive) == 0, e5, draught && cell && tick},
		{"Passage", len(passage) == 0, e6, draught && cell && tick && other},
		{"Depart", len(depart) == 0, e7, draught && cell && tick},
		{"Moves", len(moves) == 0, e8, draught && cell && tick && until},
	}
}

// TestErrChartFirst is R1 and R2: with a chart that is not valid, all functions return ErrChart and nothing else,
// whatever their other arguments are.
func TestErrChartFirst(t *testing.T) {
	for name, c := range invalid() {
		for _, a := range []args{{draught: 1}, {}, {-1, -1, -1, -1, -1, -1}, {99, 99, 99, 999, 99, 99}, {5, 6, 0, 5, 0, 0}} {
			for _, x := range ask(c, a) {
				if x.e != api.ErrChart || !x.zero {
					t.Errorf("%s: %s(%v): %d, zero %v", name, x.name, a, x.e, x.zero)
				}
			}
		}
		if sure, may, e := chart.Windows(c, api.Ramp{Draught: 1}); e != api.ErrChart || len(sure)+len(may) > 0 {
			t.Errorf("%s: Windows: %d", name, e)
		}
	}
}

// TestErrArg changes one argument after the other to one that is just not valid, and to one that is just valid.
func TestErrArg(t *testing.T) {
	good := args{5, 6, 0, 20, 1, 2}
	changes := map[string]func(a *args, n int){
		"cell": func(a *args, n int) { a.cell = n }, "other": func(a *args, n int) { a.other = n },
		"direction": func(a *args, n int) { a.direction = n }, "draught": func(a *args, n int) { a.draught = n },
		"tick": func(a *args, n int) { a.tick = n }, "until": func(a *args, n int) { a.until = n },
	}
	for name, change := range changes {
		for _, n := range []int{math.MinInt, -5, -1, 0, 1, 4, 5, 6, 11, 12, 100, 101, math.MaxInt} {
			a := good
			change(&a, n)
			for _, x := range ask(sea(), a) {
				holdArg(t, x, name, n)
			}
		}
	}
}

// holdArg holds ErrArg against what is known of the arguments: ErrNone is left to those for whom there is something.
func holdArg(t *testing.T, x asked, name string, n int) {
	t.Helper()
	if (x.e == api.ErrArg) == x.valid {
		t.Errorf("%s with %s %d: %d, valid %v", x.name, name, n, x.e, x.valid)
	}
	if x.e != api.OK && x.e != api.ErrArg && (x.e != api.ErrNone || x.name != "Next" && x.name != "Passage") {
		t.Errorf("%s with %s %d: %d", x.name, name, n, x.e)
	}
	if x.e != api.OK && !x.zero {
		t.Errorf("%s with %s %d: %d, and more", x.name, name, n, x.e)
	}
}

// TestNoPanic is P1: for arguments of all kinds each function returns, with the error that is named first.
func TestNoPanic(t *testing.T) {
	r := rand.New(rand.NewPCG(4, 4))
	odd := []int{math.MinInt, math.MinInt + 1, -1 << 32, -101, -6, -1, 0, 1, 2, 3, 4, 5, 6, 11, 12, 59, 60, 100, 101, 1 << 32, math.MaxInt - 1, math.MaxInt}
	pick := func() int { return odd[r.IntN(len(odd))] }
	near := func() int { return r.IntN(13) - 1 }
	charts := []api.Chart{{}, sea(), still(1, 1, 5, 1), still(3, 2, 5, 6), {Wide: 1 << 62, High: 4}, {Wide: -1, High: -1, Depth: []int{0}}}
	for i := range 20000 {
		some := pick
		if i%2 == 0 {
			some = near
		}
		c := charts[r.IntN(len(charts))]
		if r.IntN(20) == 0 {
			c.Wide, c.High = pick(), pick()
		}
		a := args{some(), some(), some(), some(), some(), some()}
		broken := chart.Check(c) != api.OK
		for _, x := range ask(c, a) {
			if broken != (x.e == api.ErrChart) || broken && !x.zero {
				t.Fatalf("%s(%v, %v): %d, zero %v", x.name, c, a, x.e, x.zero)
			}
			if !broken {
				holdArg(t, x, "all", i)
			}
		}
		ramp := api.Ramp{Cell: some(), Draught: some(), Least: some(), Most: some(), Surf: some()}
		sure, may, e := chart.Windows(c, ramp)
		if e != api.OK && len(sure)+len(may) > 0 || broken && e != api.ErrChart || !broken && e != api.OK && e != api.ErrRamp {
			t.Fatalf("Windows(%v, %v) = %v, %v, %d", c, ramp, sure, may, e)
		}
	}
}

// TestErrorsTogether: of several errors the one named first, of arguments that are not valid and of nothing to return.
func TestErrorsTogether(t *testing.T) {
	c := sea()
	if l, e := chart.Passage(c, 20, 3, 0, 12); e != api.ErrArg || len(l) > 0 {
		t.Errorf("Passage from land to no cell = %v, %d", l, e)
	}
	if l, e := chart.Passage(c, 0, 3, 0, 7); e != api.ErrArg || len(l) > 0 {
		t.Errorf("Passage of no draught over land = %v, %d", l, e)
	}
	if l, e := chart.Moves(c, 20, 4, 3, -1); e != api.ErrArg || len(l) > 0 {
		t.Errorf("Moves until before the first tick = %v, %d", l, e)
	}
	if l, e := chart.Moves(c, 101, 4, 3, 2); e != api.ErrArg || len(l) > 0 {
		t.Errorf("Moves of a great draught back in time = %v, %d", l, e)
	}
}

// TestMemory is R4: no argument is changed, also behind its length, and no result shares memory with anything.
func TestMemory(t *testing.T) {
	c := sea()
	c.Depth, c.Tide, c.Swell = append(c.Depth, 77), append(c.Tide, span(7, 7)), append(c.Swell, 77)
	whole := copied(c)
	cut := c
	cut.Depth, cut.Tide, cut.Swell = c.Depth[:12], c.Tide[:5], c.Swell[:5]
	r := api.Ramp{Cell: 5, Draught: 20, Least: 12, Most: 30, Surf: 5}
	for range 2 {
		lists := [][]int{mustArrive(t, cut, 20, 4, 0), mustDepart(t, cut, 20, 4, 4), mustMoves(t, cut, 20, 4, 0, 4), mustMoves(t, cut, 20, 4, 3, 2)}
		want := [][]int{{2, 2, -1, -1, 0, 1, 2, -1, 1, 1, 2, 3}, {2, 2, -1, -1, 4, 3, 2, -1, 3, 3, 2, 1}, {-1, -1, -1, -1, 0, 1, -1, -1, 1, 1, 2, 3}, slices.Repeat([]int{-1}, 12)}
		passage, _ := chart.Passage(cut, 20, 4, 0, 11)
		lists, want = append(lists, passage), append(want, []int{4, 5, 6, 11})
		sure, may := mustWindows(t, cut, r)
		if !slices.Equal(sure, []api.Span{span(1, 1), span(3, 3)}) || !slices.Equal(may, []api.Span{span(0, 4)}) {
			t.Errorf("Windows = %v, %v", sure, may)
		}
		for i := range lists {
			if !slices.Equal(lists[i], want[i]) {
				t.Errorf("%d: %v", i, lists[i])
			}
		}
		for _, l := range lists {
			spoil(l[:cap(l)])
		}
		sure, may = sure[:cap(sure)], may[:cap(may)]
		for _, l := range [][]api.Span{sure, may} {
			for i := range l {
				l[i] = span(-9, -9)
			}
		}
		if !same(c, whole) {
			t.Fatalf("the chart is now %v", c)
		}
	}
}

func spoil(l []int) {
	for i := range l {
		l[i] = -9
	}
}

// TestSpansApart: the two results of Windows share no memory either.
func TestSpansApart(t *testing.T) {
	sure, may := mustWindows(t, still(1, 1, 5, 3), api.Ramp{Draught: 5})
	if len(sure) != 1 || len(may) != 1 {
		t.Fatalf("Windows = %v, %v", sure, may)
	}
	sure[0] = span(8, 9)
	if may[0] != span(0, 2) {
		t.Errorf("may is now %v", may)
	}
}

// TestNothingKept: no function keeps a chart that is changed between two calls.
func TestNothingKept(t *testing.T) {
	c := sea()
	for range 2 {
		if l := mustArrive(t, c, 20, 4, 0); l[5] != 1 {
			t.Errorf("Arrive = %v", l)
		}
		c.Depth[5] = -900
		if l := mustArrive(t, c, 20, 4, 0); l[5] != -1 {
			t.Errorf("Arrive on land = %v", l)
		}
		if s, e := chart.Water(c, 5, 0); s != span(-895, -891) || e != api.OK {
			t.Errorf("Water = %v, %d", s, e)
		}
		c.Wide, c.High = 3, 4
		if n := mustApart(t, c, 0, 8); n != 3 {
			t.Errorf("Apart = %d", n)
		}
		if n, e := chart.Next(c, 5, 0); e != api.ErrNone {
			t.Errorf("Next = %d, %d", n, e)
		}
		c = sea()
	}
}
