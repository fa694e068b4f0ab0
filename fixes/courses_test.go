package fixes_test

import (
	"slices"
	"testing"

	"coble/api"
	"coble/fixes"
)

// dry returns a distress with some cells that are dry.
func dry(d api.Distress, cells ...int) api.Distress {
	d = copied(d)
	for _, cell := range cells {
		d.Chart.Depth[cell] = -200
	}
	return d
}

// TestWhere is P3.2: what is so before a tick, in it and after it counts.
func TestWhere(t *testing.T) {
	line := still(6, 1, 5, 3, 1)
	for i, x := range []struct {
		d    api.Distress
		want [3][]int
	}{
		{line, [3][]int{upTo(6), upTo(6), upTo(6)}},
		{with(line, at(0, 1)), [3][]int{{1}, {0, 1, 2}, {0, 1, 2, 3}}},
		{with(line, at(2, 5)), [3][]int{{3, 4, 5}, {4, 5}, {5}}},
		{with(line, at(1, 2)), [3][]int{{1, 2, 3}, {2}, {1, 2, 3}}},
		{with(line, at(0, 1), at(2, 3)), [3][]int{{1}, {2}, {3}}},
		{with(line, at(0, 1), at(2, 2)), [3][]int{{1}, {1, 2}, {2}}},
		{with(line, columns(0, 0, 1), columns(2, 3, 5)), [3][]int{{1}, {2}, {3}}},
		{with(line, columns(0, 2, 4), columns(0, 0, 3)), [3][]int{{2, 3}, {1, 2, 3, 4}, upTo(6)}},
		{with(dry(line, 3), at(0, 1)), [3][]int{{1}, {0, 1, 2}, {0, 1, 2}}},
		{with(line, sure(at(0, 1)), at(2, 3)), [3][]int{{1}, {2}, {3}}},
		{with(line, at(0, 1), at(0, 1)), [3][]int{{1}, {0, 1, 2}, {0, 1, 2, 3}}},
	} {
		for tick, want := range x.want {
			if l := mustWhere(t, x.d, tick); !slices.Equal(l, want) {
				t.Errorf("%d: Where in %d = %v", i, tick, l)
			}
		}
	}
}

// TestPace: how many steps of chart.Apart the casualty moves, over water and land alike.
func TestPace(t *testing.T) {
	for pace, want := range [][]int{{0}, {0, 1}, {0, 1, 2}, upTo(4), upTo(5), upTo(6)} {
		line := still(12, 1, 5, 2, pace)
		if l := mustWhere(t, with(line, at(0, 0)), 1); !slices.Equal(l, want) {
			t.Errorf("with the pace %d: Where = %v", pace, l)
		}
		if l := mustWhere(t, with(line, at(1, 0)), 0); !slices.Equal(l, want) {
			t.Errorf("with the pace %d: Where before it = %v", pace, l)
		}
	}
	bar := dry(still(4, 1, 5, 2, 2), 1)
	if l := mustWhere(t, with(bar, at(0, 0)), 1); !slices.Equal(l, []int{0, 2}) {
		t.Errorf("behind a bar: Where = %v", l)
	}
	field := still(4, 4, 5, 2, 1)
	if l := mustWhere(t, with(field, at(0, 5)), 1); !slices.Equal(l, []int{1, 2, 4, 5, 6, 9, 10}) {
		t.Errorf("from an odd row: Where = %v", l)
	}
	if l := mustWhere(t, with(field, at(0, 9)), 1); !slices.Equal(l, []int{4, 5, 8, 9, 10, 12, 13}) {
		t.Errorf("from an even row: Where = %v", l)
	}
}

// TestMayFloat: a course may be where the casualty floats with some height of the tide; that is asked in each tick, also in
// those without reports.
func TestMayFloat(t *testing.T) {
	d := still(3, 1, 0, 3, 0)
	d.Chart.Depth, d.Draught = []int{7, 6, 5}, 9
	d.Chart.Tide, d.Chart.Swell = []api.Span{span(0, 4), span(0, 3), span(4, 9)}, []int{0, 0, 1}
	if l := mustWhere(t, d, 0); !slices.Equal(l, []int{0, 1}) {
		t.Errorf("Where = %v", l)
	}
	d.Chart.Swell[1] = 1
	if l := mustWhere(t, d, 2); !slices.Equal(l, []int{0}) {
		t.Errorf("Where with more swell = %v", l)
	}
	d.Chart.Tide[1].High = 2
	if l, e := fixes.Where(d, 2); e != api.ErrNone || len(l) > 0 {
		t.Errorf("Where with less tide = %v, %d", l, e)
	}
	if l, e := fixes.Course(d); e != api.ErrNone || len(l) > 0 {
		t.Errorf("Course with less tide = %v, %d", l, e)
	}
	if n, l, e := fixes.Doubt(d); e != api.ErrNone || n != 0 || len(l) > 0 {
		t.Errorf("Doubt with less tide = %d, %v, %d", n, l, e)
	}
	if l := mustWithin(t, d, 0, 1200); len(l) > 0 {
		t.Errorf("Within with less tide = %v", l)
	}
}

// TestCourse is P3.3: the lower cell in the first tick in which courses differ, as far as a course goes on from there.
func TestCourse(t *testing.T) {
	line := still(6, 1, 5, 3, 1)
	for i, x := range []struct {
		d    api.Distress
		want []int
	}{
		{line, []int{0, 0, 0}},
		{with(line, at(1, 3)), []int{2, 3, 2}},
		{with(line, at(2, 5)), []int{3, 4, 5}},
		{with(line, at(0, 4), at(2, 4)), []int{4, 3, 4}},
		{with(line, columns(0, 1, 5), columns(1, 3, 5), columns(2, 0, 3)), []int{2, 3, 2}},
		{dry(line, 1, 2), []int{0, 0, 0}},
		{with(dry(line, 0, 3), columns(2, 2, 5)), []int{1, 1, 2}},
		{with(still(6, 1, 5, 1, 5), columns(0, 2, 4)), []int{2}},
		{with(still(4, 4, 5, 3, 1), at(1, 10)), []int{5, 10, 5}},
		{with(still(12, 1, 5, 3, 5), at(0, 11), columns(2, 0, 11)), []int{11, 6, 1}},
	} {
		if l := mustCourse(t, x.d); !slices.Equal(l, x.want) {
			t.Errorf("%d: Course = %v", i, l)
		}
	}
}

// TestNoCourse: Where and Course return ErrNone, whether reports contradict each other, or one of them is never true.
func TestNoCourse(t *testing.T) {
	line := still(6, 1, 5, 3, 1)
	for i, d := range []api.Distress{
		with(line, at(0, 0), at(0, 1)), with(line, at(0, 0), at(1, 2)), with(line, at(2, 0), at(0, 3)), with(line, at(0, 0), sure(off(0, 0))),
		with(line, api.Report{Kind: api.Ring, A: 6, B: 200, Weight: 1}), with(line, api.Report{Kind: api.Clear, A: 5, Weight: 1}),
		with(line, columns(1, 6, 9)), with(dry(line, 2), at(1, 2)), dry(line, 0, 1, 2, 3, 4, 5),
	} {
		for tick := range 3 {
			if l, e := fixes.Where(d, tick); e != api.ErrNone || len(l) > 0 {
				t.Errorf("%d: Where in %d = %v, %d", i, tick, l, e)
			}
		}
		if l, e := fixes.Course(d); e != api.ErrNone || len(l) > 0 {
			t.Errorf("%d: Course = %v, %d", i, l, e)
		}
	}
}

// TestDoubt is P3.4: not the fewest reports count but their weights, and of several courses the first one is meant.
func TestDoubt(t *testing.T) {
	line := still(6, 1, 5, 3, 1)
	for i, x := range []struct {
		d      api.Distress
		doubt  int
		course []int
	}{
		{line, 0, []int{0, 0, 0}},
		{with(line, at(1, 3)), 0, []int{2, 3, 2}},
		{with(line, at(0, 4), at(0, 3)), 1, []int{3, 2, 1}},
		{with(line, at(0, 4), at(0, 3), at(0, 4)), 1, []int{4, 3, 2}},
		{with(line, at(0, 4), weighed(at(0, 3), 3), at(0, 4)), 2, []int{3, 2, 1}},
		{with(line, weighed(at(0, 5), 2), weighed(at(2, 0), 2)), 2, []int{0, 0, 0}},
		{with(line, weighed(at(0, 5), 2), at(2, 0)), 1, []int{5, 4, 3}},
		{with(line, sure(at(0, 5)), weighed(at(2, 0), 100)), 100, []int{5, 4, 3}},
		{with(line, weighed(at(0, 1), 100), sure(at(0, 5)), weighed(at(2, 0), 100)), 200, []int{5, 4, 3}},
		{with(line, at(1, 4), sure(off(1, 4))), 1, []int{0, 0, 0}},
		{with(line, columns(2, 7, 9)), 1, []int{0, 0, 0}},
		{with(line, sure(columns(0, 2, 3)), sure(columns(1, 3, 4)), sure(columns(2, 4, 5))), 0, []int{2, 3, 4}},
	} {
		if n, l := mustDoubt(t, x.d); n != x.doubt || !slices.Equal(l, x.course) {
			t.Errorf("%d: Doubt = %d, %v", i, n, l)
		}
	}
}

// TestDoubtNone: no course is possible, if reports that are sure contradict each other, or one of them is never true.
func TestDoubtNone(t *testing.T) {
	line := still(6, 1, 5, 3, 1)
	for i, d := range []api.Distress{
		with(line, sure(at(0, 0)), sure(at(0, 1))), with(line, sure(at(0, 0)), at(1, 1), sure(at(2, 3))), with(line, sure(columns(1, 6, 9))),
		with(dry(line, 4), sure(at(2, 4))), dry(line, 0, 1, 2, 3, 4, 5),
	} {
		if n, l, e := fixes.Doubt(d); e != api.ErrNone || n != 0 || len(l) > 0 {
			t.Errorf("%d: Doubt = %d, %v, %d", i, n, l, e)
		}
		for _, doubt := range []int{0, 1, 1200} {
			if l := mustWithin(t, d, 1, doubt); len(l) > 0 {
				t.Errorf("%d: Within with %d = %v", i, doubt, l)
			}
		}
	}
}

// TestAllDoubt: twelve reports with the greatest weight that are never true.
func TestAllDoubt(t *testing.T) {
	d := still(3, 1, 5, 12, 1)
	for tick := range 12 {
		d = with(d, weighed(columns(tick, 3, 3), 100))
	}
	if n, l := mustDoubt(t, d); n != 1200 || !slices.Equal(l, make([]int, 12)) {
		t.Errorf("Doubt = %d, %v", n, l)
	}
	if l := mustWithin(t, d, 5, 1200); !slices.Equal(l, upTo(3)) {
		t.Errorf("Within with 1200 = %v", l)
	}
	if l := mustWithin(t, d, 5, 1199); len(l) > 0 {
		t.Errorf("Within with 1199 = %v", l)
	}
	d.Reports[11] = sure(d.Reports[11])
	if _, _, e := fixes.Doubt(d); e != api.ErrNone {
		t.Errorf("Doubt with one that is sure: %d", e)
	}
	if l := mustWithin(t, d, 5, 1200); len(l) > 0 {
		t.Errorf("Within with one that is sure = %v", l)
	}
}

// TestWithin is P3.5: what is not true before a tick, in it and after it is one sum. No two of the reports can be true.
func TestWithin(t *testing.T) {
	d := with(still(6, 1, 5, 3, 1), weighed(at(0, 0), 2), weighed(at(1, 3), 3), weighed(at(2, 5), 4))
	for doubt, want := range map[int][3][]int{
		0: {}, 4: {},
		5:    {{3, 4, 5}, {4, 5}, {5}},
		6:    {{2, 3, 4, 5}, {3, 4, 5}, {2, 3, 4, 5}},
		7:    {{0, 2, 3, 4, 5}, {0, 1, 3, 4, 5}, upTo(6)},
		8:    {{0, 2, 3, 4, 5}, {0, 1, 3, 4, 5}, upTo(6)},
		9:    {upTo(6), upTo(6), upTo(6)},
		1200: {upTo(6), upTo(6), upTo(6)},
	} {
		for tick := range want {
			if l := mustWithin(t, d, tick, doubt); !slices.Equal(l, want[tick]) {
				t.Errorf("Within(%d, %d) = %v", tick, doubt, l)
			}
		}
	}
	d.Reports[1] = sure(d.Reports[1])
	for doubt, want := range map[int][3][]int{5: {}, 6: {{2, 3, 4}, {3}, {2, 3, 4}}, 1200: {{2, 3, 4}, {3}, {2, 3, 4}}} {
		for tick := range want {
			if l := mustWithin(t, d, tick, doubt); !slices.Equal(l, want[tick]) {
				t.Errorf("with one that is sure: Within(%d, %d) = %v", tick, doubt, l)
			}
		}
	}
}

// TestCoursesOneByOne holds P3.2 to P3.5 against all courses of small distresses.
func TestCoursesOneByOne(t *testing.T) {
	found := map[api.Errno]int{}
	for _, d := range slices.Concat(puzzles(1, 500, 3, 3, 4, 4), puzzles(2, 300, 4, 4, 2, 8), puzzles(3, 100, 6, 5, 1, 12)) {
		m := try(d)
		for tick := range d.Chart.Tide {
			all := 1<<len(d.Reports) - 1
			want := m.where(tick, func(truth int) bool { return truth == all })
			l, e := fixes.Where(d, tick)
			if !slices.Equal(l, want) || (e == api.ErrNone) != (len(want) == 0) || e != api.OK && e != api.ErrNone {
				t.Fatalf("Where(%v, %d) = %v, %d, want %v", d, tick, l, e, want)
			}
			for _, doubt := range []int{0, 1, 2, 3, 4, 5, 8, 1200} {
				if l, want := mustWithin(t, d, tick, doubt), m.within(tick, doubt); !slices.Equal(l, want) {
					t.Fatalf("Within(%v, %d, %d) = %v, want %v", d, tick, doubt, l, want)
				}
			}
		}
		holdCourse(t, m, found)
		holdDoubt(t, m, found)
	}
	if found[api.OK] < 400 || found[api.ErrNone] < 400 {
		t.Errorf("how many were found, and not: %v", found)
	}
}

func holdCourse(t *testing.T, m model, found map[api.Errno]int) {
	t.Helper()
	var want []int
	if i := slices.Index(m.truths, 1<<len(m.Reports)-1); i >= 0 {
		want = m.courses[i]
	}
	l, e := fixes.Course(m.Distress)
	found[e]++
	if !slices.Equal(l, want) || (e == api.ErrNone) != (want == nil) || e != api.OK && e != api.ErrNone {
		t.Fatalf("Course(%v) = %v, %d, want %v", m.Distress, l, e, want)
	}
}

func holdDoubt(t *testing.T, m model, found map[api.Errno]int) {
	t.Helper()
	doubt, course := m.best()
	n, l, e := fixes.Doubt(m.Distress)
	found[e]++
	if doubt < 0 {
		if n != 0 || len(l) > 0 || e != api.ErrNone {
			t.Fatalf("Doubt(%v) = %d, %v, %d", m.Distress, n, l, e)
		}
		return
	}
	if n != doubt || !slices.Equal(l, course) || e != api.OK {
		t.Fatalf("Doubt(%v) = %d, %v, %d, want %d, %v", m.Distress, n, l, e, doubt, course)
	}
}
