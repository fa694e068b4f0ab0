package fixes_test

import (
	"slices"
	"testing"

	"coble/api"
	"coble/fixes"
)

// TestConflict is P3.6: the fewest reports, and of several lists the one with the lower number.
func TestConflict(t *testing.T) {
	line := still(6, 1, 5, 3, 1)
	for i, x := range []struct {
		d    api.Distress
		want []int
	}{
		{with(line, at(0, 0), at(0, 1)), []int{0, 1}},
		{with(line, at(0, 0), at(0, 0), at(2, 3)), []int{0, 2}},
		{with(line, at(0, 0), off(0, 1), off(0, 0)), []int{0, 2}},
		{with(line, at(0, 0), at(1, 1), at(2, 3)), []int{0, 2}},
		{with(line, at(2, 4), at(1, 3), at(0, 5), at(0, 2), at(1, 3), at(1, 4)), []int{1, 2}},
		// fewer with higher numbers, and single ones that are never true
		{with(line, columns(0, 0, 1), columns(0, 1, 2), off(0, 1), at(2, 5), at(2, 0)), []int{0, 3}},
		{with(line, columns(0, 2, 3), columns(0, 3, 4), off(0, 3), at(2, 1), at(2, 4)), []int{3, 4}},
		{with(line, columns(0, 2, 3), columns(0, 3, 4), off(0, 3)), []int{0, 1, 2}},
		{with(line, at(0, 0), at(0, 1), columns(2, 6, 9)), []int{2}},
		{with(line, at(0, 0), columns(1, 7, 9), at(0, 1), columns(2, 6, 9)), []int{1}},
		{with(dry(line, 3), at(0, 0), at(0, 3)), []int{1}},
		// weights, and what is sure, do not matter
		{with(line, sure(at(0, 0)), weighed(at(0, 1), 100), at(0, 2)), []int{0, 1}},
		{with(line, at(0, 0), at(0, 1), sure(at(0, 2)), sure(at(0, 3))), []int{0, 1}},
		// no report is needed
		{dry(line, 0, 1, 2, 3, 4, 5), nil},
		{with(dry(line, 0, 1, 2, 3, 4, 5), at(0, 0), at(0, 1)), nil},
	} {
		if l, e := fixes.Conflict(x.d); e != api.OK || !slices.Equal(l, x.want) {
			t.Errorf("%d: Conflict = %v, %d", i, l, e)
		}
	}
	for i, d := range []api.Distress{line, first(), with(line, at(0, 1), at(0, 1), at(2, 3)), with(line, sure(at(0, 1)), off(0, 2))} {
		if l, e := fixes.Conflict(d); e != api.ErrNone || len(l) > 0 {
			t.Errorf("%d: Conflict of what can be = %v, %d", i, l, e)
		}
	}
}

// TestConflictOfAll: twelve reports, all of which are needed, or just the last two.
func TestConflictOfAll(t *testing.T) {
	d := still(12, 1, 5, 3, 0)
	for cell := range 12 {
		d = with(d, off(cell%3, cell))
	}
	if l, e := fixes.Conflict(d); e != api.OK || !slices.Equal(l, upTo(12)) {
		t.Errorf("Conflict = %v, %d", l, e)
	}
	if l, e := fixes.Struck(d, 1, 11); e != api.OK || !slices.Equal(l, []int{11}) {
		t.Errorf("Struck of 11 = %v, %d", l, e)
	}
	if l, e := fixes.Conflict(without(d, 7)); e != api.ErrNone || len(l) > 0 {
		t.Errorf("Conflict without 7 = %v, %d", l, e)
	}
	if l, e := fixes.Sources(d); e != api.OK || !slices.Equal(l, []int{0, 0, 0, 0, 0, 0, 0, 0, 0, 0, 0, 1}) {
		t.Errorf("Sources = %v, %d", l, e)
	}
	d.Reports[11] = at(1, 10)
	if l, e := fixes.Conflict(d); e != api.OK || !slices.Equal(l, []int{10, 11}) {
		t.Errorf("Conflict of the last two = %v, %d", l, e)
	}
}

// TestStruck is P3.7.
func TestStruck(t *testing.T) {
	line := still(6, 1, 5, 3, 1)
	for i, x := range []struct {
		d          api.Distress
		tick, cell int
		want       []int
	}{
		{with(line, at(0, 0)), 0, 1, []int{0}},
		{with(line, at(0, 0)), 2, 3, []int{0}},
		{with(line, at(2, 0)), 0, 3, []int{0}},
		{with(line, at(0, 0), at(1, 0), at(2, 0)), 1, 2, []int{0}},
		{with(line, at(1, 1), at(2, 0), off(1, 2)), 1, 2, []int{0}},
		{with(line, columns(1, 1, 5), at(2, 0), off(1, 2)), 1, 2, []int{1}},
		{with(line, columns(1, 1, 5), columns(2, 0, 1), off(1, 2)), 1, 2, []int{2}},
		{with(line, columns(0, 1, 2), columns(1, 3, 5), columns(0, 0, 1)), 2, 2, []int{1, 2}},
		{with(line, columns(0, 1, 2), columns(1, 3, 5), columns(0, 0, 1)), 2, 3, []int{1, 2}},
		{with(line, columns(0, 1, 2), columns(1, 3, 5), columns(0, 0, 1)), 0, 2, []int{2}},
		{with(line, off(1, 2), off(1, 3), off(1, 1)), 2, 2, []int{0, 1, 2}},
		{with(line, off(1, 2), off(1, 3), off(1, 1), at(0, 0)), 2, 2, []int{2, 3}},
		{with(line, off(1, 1), off(1, 2), at(0, 5), off(1, 3)), 2, 2, []int{2}},
		// no report is needed: it is dry there
		{dry(line, 1), 0, 1, nil},
		{with(dry(line, 1), at(0, 0)), 0, 1, nil},
		{with(dry(line, 1), at(0, 0), at(0, 2), at(0, 1)), 2, 1, nil},
	} {
		if l, e := fixes.Struck(x.d, x.tick, x.cell); e != api.OK || !slices.Equal(l, x.want) {
			t.Errorf("%d: Struck = %v, %d", i, l, e)
		}
	}
	for i, x := range []struct {
		d          api.Distress
		tick, cell int
	}{{line, 0, 0}, {line, 2, 5}, {with(line, at(0, 2)), 2, 4}, {with(line, at(0, 2)), 0, 2}, {first(), 1, 5}} {
		if l, e := fixes.Struck(x.d, x.tick, x.cell); e != api.ErrNone || len(l) > 0 {
			t.Errorf("%d: Struck of what can be = %v, %d", i, l, e)
		}
	}
}

// TestStruckWithoutCourse: a cell in which the casualty floats, but to which it cannot come, or which it cannot leave.
func TestStruckWithoutCourse(t *testing.T) {
	d := still(3, 1, 0, 3, 0)
	d.Chart.Depth, d.Draught = []int{9, 6, 3}, 9
	d.Chart.Tide = []api.Span{span(0, 3), span(6, 6), span(0, 0)}
	d = with(d, at(0, 0), at(1, 2))
	for i, x := range [][2]int{{0, 1}, {0, 2}, {1, 1}, {1, 2}, {2, 1}, {2, 2}} {
		if l, e := fixes.Struck(d, x[0], x[1]); e != api.OK || len(l) > 0 {
			t.Errorf("%d: Struck = %v, %d", i, l, e)
		}
	}
	if l, e := fixes.Struck(d, 2, 0); e != api.OK || !slices.Equal(l, []int{1}) {
		t.Errorf("Struck of 0 = %v, %d", l, e)
	}
}

// TestSources is P3.8: the fewest casualties, and of several lists the one with the lower number.
func TestSources(t *testing.T) {
	line := still(6, 1, 5, 3, 1)
	spot := still(6, 1, 5, 1, 0)
	for i, x := range []struct {
		d    api.Distress
		want []int
	}{
		{line, nil},
		{with(line, at(0, 0)), []int{0}},
		{with(line, at(0, 0), at(0, 1)), []int{0, 1}},
		{with(line, at(0, 0), at(0, 1), at(0, 0), at(0, 1)), []int{0, 1, 0, 1}},
		{with(line, at(0, 0), at(0, 1), at(1, 1), at(1, 2), at(2, 0)), []int{0, 1, 0, 1, 0}},
		{with(line, at(0, 0), at(0, 3), at(2, 1), at(2, 5)), []int{0, 1, 0, 1}},
		{with(line, at(0, 0), at(2, 5), at(0, 4), at(1, 2)), []int{0, 1, 1, 2}},
		// the first two could be of one, but then there would be three casualties
		{with(spot, columns(0, 0, 1), columns(0, 1, 2), at(0, 0), at(0, 2)), []int{0, 1, 0, 1}},
		{with(spot, columns(0, 1, 3), columns(0, 0, 2), columns(0, 2, 4), at(0, 0), at(0, 4), at(0, 3)), []int{0, 1, 0, 1, 2, 0}},
		// weights, and what is sure, do not matter
		{with(line, sure(at(0, 0)), weighed(at(0, 1), 100), sure(at(0, 2)), at(0, 1)), []int{0, 1, 2, 1}},
		// no two of them are of one
		{with(spot, at(0, 5), at(0, 4), at(0, 3), at(0, 2), at(0, 1), at(0, 0)), upTo(6)},
		// without any course, but also without any report
		{dry(line, 0, 1, 2, 3, 4, 5), nil},
	} {
		if l, e := fixes.Sources(x.d); e != api.OK || !slices.Equal(l, x.want) {
			t.Errorf("%d: Sources = %v, %d", i, l, e)
		}
	}
	for i, d := range []api.Distress{
		with(line, columns(0, 6, 9)), with(line, at(0, 0), at(0, 1), columns(2, 6, 9)), with(line, sure(columns(1, 6, 9)), at(0, 1)),
		with(dry(line, 3), at(0, 0), at(1, 3)), with(dry(line, 0, 1, 2, 3, 4, 5), at(0, 0)),
	} {
		if l, e := fixes.Sources(d); e != api.ErrNone || len(l) > 0 {
			t.Errorf("%d: Sources with one that is never true = %v, %d", i, l, e)
		}
	}
}

// TestTwelveCasualties: twelve reports of as many casualties.
func TestTwelveCasualties(t *testing.T) {
	d := still(12, 1, 5, 2, 0)
	for cell := range 12 {
		d = with(d, at(cell%2, 11-cell))
	}
	if l, e := fixes.Sources(d); e != api.OK || !slices.Equal(l, upTo(12)) {
		t.Errorf("Sources = %v, %d", l, e)
	}
}

// TestNamesOneByOne holds P3.6 to P3.8 against all lists of reports of small distresses.
func TestNamesOneByOne(t *testing.T) {
	found := map[int]int{}
	for _, d := range slices.Concat(puzzles(5, 400, 3, 3, 3, 5), puzzles(6, 300, 4, 3, 2, 5), puzzles(7, 200, 5, 4, 1, 7)) {
		m := try(d)
		l, e := fixes.Conflict(d)
		holdNames(t, m, "Conflict", l, e)
		for tick := range d.Chart.Tide {
			for cell := range d.Chart.Depth {
				l, e := fixes.Struck(d, tick, cell)
				holdNames(t, m.through(tick, cell), "Struck", l, e)
				found[len(l)]++
			}
		}
		want, ok := m.sources()
		l, e = fixes.Sources(d)
		if !slices.Equal(l, want) || e != map[bool]api.Errno{true: api.OK, false: api.ErrNone}[ok] {
			t.Fatalf("Sources(%v) = %v, %d, want %v", d, l, e, want)
		}
	}
	if found[0] < 1000 || found[1] < 1000 || found[2] < 50 {
		t.Errorf("how many reports were named: %v", found)
	}
}

func holdNames(t *testing.T, m model, name string, l []int, e api.Errno) {
	t.Helper()
	want, ok := m.contradiction()
	if !slices.Equal(l, want) || e != map[bool]api.Errno{true: api.OK, false: api.ErrNone}[ok] {
		t.Fatalf("%s of %v = %v, %d, want %v", name, m.Distress, l, e, want)
	}
}
