package fixes_test

import (
	"math/rand/v2"
	"slices"
	"testing"

	"coble/api"
	"coble/fixes"
)

// large returns distresses that have too many courses for all of them to be tried.
func large(seed uint64, n int) []api.Distress {
	var l []api.Distress
	for i, d := range puzzles(seed, n, 6, 6, 7, 9) {
		for cell := range d.Chart.Depth {
			d.Chart.Depth[cell] += i % 6
		}
		l = append(l, d)
	}
	return l
}

// isCourse reports whether a list is a course.
func isCourse(d api.Distress, apart [][]int, l []int) bool {
	for tick, cell := range l {
		if !mayFloat(d, cell, tick) || tick > 0 && apart[l[tick-1]][cell] > d.Pace {
			return false
		}
	}
	return len(l) == len(d.Chart.Tide)
}

// drifts returns courses that look random.
func drifts(r *rand.Rand, d api.Distress, apart [][]int, n int) [][]int {
	var l [][]int
	for range n {
		var course []int
		for tick := range d.Chart.Tide {
			near := slices.DeleteFunc(cells(d), func(cell int) bool {
				return !mayFloat(d, cell, tick) || tick > 0 && apart[course[tick-1]][cell] > d.Pace
			})
			if len(near) == 0 {
				break
			}
			course = append(course, near[r.IntN(len(near))])
		}
		if isCourse(d, apart, course) {
			l = append(l, course)
		}
	}
	return l
}

// allTrue returns a distress with those reports alone that are true of a course.
func allTrue(d api.Distress, apart [][]int, course []int) api.Distress {
	return only(d, slices.DeleteFunc(upTo(len(d.Reports)), func(i int) bool { return truth(d, apart, course)>>i&1 == 0 })...)
}

// TestInTheSet is P3.9: where a course leads of which all reports are true is in Where, and each cell of Where is one of
// such a course.
func TestInTheSet(t *testing.T) {
	r := rand.New(rand.NewPCG(9, 9))
	found := 0
	for _, d := range large(9, 150) {
		apart := distances(d.Chart)
		for _, course := range drifts(r, d, apart, 3) {
			d := allTrue(d, apart, course)
			for tick, cell := range course {
				l := mustWhere(t, d, tick)
				if !slices.Contains(l, cell) {
					t.Fatalf("Where(%v, %d) = %v, without %d", d, tick, l, cell)
				}
				for _, cell := range l {
					through := with(d, at(tick, cell))
					l := mustCourse(t, through)
					if l[tick] != cell || !isCourse(d, apart, l) || truth(d, apart, l) != 1<<len(d.Reports)-1 {
						t.Fatalf("Course(%v) = %v", through, l)
					}
				}
			}
			found++
		}
	}
	if found < 150 {
		t.Errorf("%d courses", found)
	}
}

// TestWithOneReportMore is P3.9: no cell is added.
func TestWithOneReportMore(t *testing.T) {
	for _, d := range large(10, 150) {
		for n := range d.Reports {
			less, more := only(d, upTo(n)...), only(d, upTo(n+1)...)
			for tick := range d.Chart.Tide {
				l, _ := fixes.Where(less, tick)
				if now, _ := fixes.Where(more, tick); !has(l, now) {
					t.Fatalf("Where(%v, %d) = %v, but without the last report %v", more, tick, now, l)
				}
			}
		}
	}
}

// TestWhateverIsWrong is P3.10 and P3.11: a course is in Within with its doubt and with a greater one, and has not less
// doubt than Doubt says.
func TestWhateverIsWrong(t *testing.T) {
	r := rand.New(rand.NewPCG(11, 11))
	found := 0
	for _, d := range large(11, 200) {
		apart := distances(d.Chart)
		m := model{Distress: d}
		for _, course := range drifts(r, d, apart, 4) {
			doubt := m.doubt(truth(d, apart, course))
			if doubt < 0 {
				continue
			}
			found++
			if n, _ := mustDoubt(t, d); n > doubt {
				t.Fatalf("Doubt(%v) = %d, but %d of %v", d, n, doubt, course)
			}
			for tick, cell := range course {
				old := mustWithin(t, d, tick, doubt)
				for _, more := range []int{doubt, doubt + 1, doubt + 7, 1200} {
					l := mustWithin(t, d, tick, more)
					if !slices.Contains(l, cell) || !has(l, old) {
						t.Fatalf("Within(%v, %d, %d) = %v, without %d of %v", d, tick, more, l, cell, old)
					}
				}
			}
		}
	}
	if found < 100 {
		t.Errorf("%d courses", found)
	}
}

// TestTheBestThatCanBe is P3.10 and P3.11: the course of Doubt has just its doubt, which is 0 exactly if Where has cells;
// with 0 Within has the cells of Where, with less than Doubt none, and with Doubt those of its course.
func TestTheBestThatCanBe(t *testing.T) {
	for _, d := range large(12, 300) {
		apart := distances(d.Chart)
		n, course, e := fixes.Doubt(d)
		if e == api.OK && (!isCourse(d, apart, course) || model{Distress: d}.doubt(truth(d, apart, course)) != n) {
			t.Fatalf("Doubt(%v) = %d, %v", d, n, course)
		}
		for tick := range d.Chart.Tide {
			where, none := fixes.Where(d, tick)
			if (none == api.OK) != (e == api.OK && n == 0) || !slices.Equal(mustWithin(t, d, tick, 0), where) {
				t.Fatalf("Where(%v, %d) = %v, %d; Doubt = %d, %d", d, tick, where, none, n, e)
			}
			if e == api.OK && !slices.Contains(mustWithin(t, d, tick, n), course[tick]) || n > 0 && len(mustWithin(t, d, tick, n-1)) > 0 {
				t.Fatalf("Within(%v, %d) with the doubt %d of %v", d, tick, n, course)
			}
		}
	}
}

// TestStruckOut is P3.12: the reports of Struck are true of no course through the cell; without any one of them they are of
// some. A cell is struck out exactly if it is not in Where.
func TestStruckOut(t *testing.T) {
	found := map[int]int{}
	for _, d := range large(13, 60) {
		for tick := range d.Chart.Tide {
			where, none := fixes.Where(d, tick)
			for cell := range d.Chart.Depth {
				l, e := fixes.Struck(d, tick, cell)
				if e != api.OK && e != api.ErrNone || none == api.OK && (e == api.OK) == slices.Contains(where, cell) {
					t.Fatalf("Struck(%v, %d, %d) = %v, %d, Where %v", d, tick, cell, l, e, where)
				}
				found[len(l)]++
				isThere := func(d api.Distress) bool {
					l, _ := fixes.Where(d, tick)
					return slices.Contains(l, cell)
				}
				if e == api.OK {
					holdReason(t, d, l, isThere)
				}
			}
		}
	}
	if found[1] < 500 || found[2] < 50 {
		t.Errorf("how many reports were named: %v", found)
	}
}

// holdReason: with the reports of a list something is not so; it is without any one of them.
func holdReason(t *testing.T, d api.Distress, l []int, isSo func(api.Distress) bool) {
	t.Helper()
	named := only(d, l...)
	if !slices.IsSorted(l) || isSo(named) {
		t.Fatalf("%v: %v is no reason", d, l)
	}
	for i := range l {
		if !isSo(without(named, i)) {
			t.Fatalf("%v: %v is a reason, but also without the report %d", d, l, l[i])
		}
	}
}

// TestWhoContradictsWhom is P3.13: the reports of Conflict are true of no course, and no fewer are.
func TestWhoContradictsWhom(t *testing.T) {
	canBe := func(d api.Distress) bool {
		_, e := fixes.Course(d)
		return e == api.OK
	}
	found := map[int]int{}
	for _, d := range large(14, 400) {
		l, e := fixes.Conflict(d)
		if canBe(d) != (e == api.ErrNone) || e != api.OK && e != api.ErrNone {
			t.Fatalf("Conflict(%v) = %v, %d", d, l, e)
		}
		if e == api.ErrNone {
			continue
		}
		found[len(l)]++
		holdReason(t, d, l, canBe)
		for a := range d.Reports {
			for b := range a + 1 {
				if len(l) > 1 && !canBe(only(d, a)) || len(l) > 2 && !canBe(only(d, b, a)) {
					t.Fatalf("Conflict(%v) = %v, but fewer contradict each other", d, l)
				}
			}
		}
	}
	if found[1] < 20 || found[2] < 20 {
		t.Errorf("how many reports were named: %v", found)
	}
}

// TestHowManyThereAre is P3.14: the reports of each casualty are true of one course, and with fewer they cannot be.
func TestHowManyThereAre(t *testing.T) {
	found := map[int]int{}
	for _, d := range puzzles(15, 150, 4, 4, 4, 12) {
		d.Reports = slices.DeleteFunc(d.Reports, func(r api.Report) bool {
			_, e := fixes.Course(only(with(d, r), len(d.Reports)))
			return e != api.OK
		})
		l, e := fixes.Sources(d)
		if e != api.OK || len(l) != len(d.Reports) {
			t.Fatalf("Sources(%v) = %v, %d", d, l, e)
		}
		casualties := 0
		for i, number := range l {
			if number > casualties {
				t.Fatalf("Sources(%v) = %v: the casualty %d comes too soon", d, l, l[i])
			}
			casualties = max(casualties, number+1)
		}
		for number := range casualties {
			mustCourse(t, only(d, slices.DeleteFunc(upTo(len(l)), func(i int) bool { return l[i] != number })...))
		}
		if n := fewest(d); n != casualties {
			t.Fatalf("Sources(%v) = %v, but there may be %d", d, l, n)
		}
		found[casualties]++
	}
	if found[1] < 10 || found[2] < 20 || found[3] < 10 {
		t.Errorf("how many casualties there were: %v", found)
	}
}

// fewest returns the least number of casualties, from that for each smaller set of the reports.
func fewest(d api.Distress) int {
	least := make([]int, 1<<len(d.Reports))
	for bits := 1; bits < len(least); bits++ {
		least[bits] = len(d.Reports)
		_, e := fixes.Course(only(d, slices.DeleteFunc(upTo(len(d.Reports)), func(i int) bool { return bits>>i&1 == 0 })...))
		if e == api.OK {
			least[bits] = 1
		}
		for part := (bits - 1) & bits; part > 0; part = (part - 1) & bits {
			least[bits] = min(least[bits], least[part]+least[bits&^part])
		}
	}
	return least[len(least)-1]
}
