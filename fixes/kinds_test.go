package fixes_test

import (
	"math/rand/v2"
	"slices"
	"testing"

	"coble/api"
	"coble/fixes"
)

// whereTrue returns the cells of which a report is true, on a chart of deep water with one tick.
func whereTrue(t *testing.T, wide, high int, r api.Report) []int {
	t.Helper()
	l, e := fixes.Where(with(still(wide, high, 5, 1, 0), r), 0)
	if e != api.OK && e != api.ErrNone {
		t.Fatalf("Where with %v: %d", r, e)
	}
	return l
}

// TestRing is P3.2 of what is from A to B steps apart.
func TestRing(t *testing.T) {
	for i, x := range []struct {
		cell, a, b int
		want       []int
	}{
		{12, 0, 0, []int{12}}, {12, 1, 1, []int{6, 7, 11, 13, 16, 17}}, {12, 0, 1, []int{6, 7, 11, 12, 13, 16, 17}},
		{6, 1, 1, []int{1, 2, 5, 7, 11, 12}}, {12, 2, 2, []int{1, 2, 3, 5, 8, 10, 14, 15, 18, 21, 22, 23}},
		{0, 4, 200, []int{4, 8, 9, 13, 14, 17, 18, 19, 20, 21, 22, 23, 24}}, {0, 6, 200, []int{19, 24}}, {0, 7, 200, nil}, {0, 200, 200, nil},
	} {
		r := api.Report{Kind: api.Ring, Cell: x.cell, A: x.a, B: x.b, Weight: 1}
		if l := whereTrue(t, 5, 5, r); !slices.Equal(l, x.want) {
			t.Errorf("%d: Ring %v = %v", i, x, l)
		}
	}
}

// TestClear is P3.2 of what is more than A steps apart.
func TestClear(t *testing.T) {
	for i, x := range []struct {
		cell, a int
		want    []int
	}{
		{4, 0, []int{0, 1, 2, 3, 5, 6, 7, 8}}, {4, 1, []int{0, 6}}, {3, 1, []int{2, 5, 8}}, {0, 2, []int{5, 8}}, {0, 3, nil}, {0, 200, nil},
	} {
		r := api.Report{Kind: api.Clear, Cell: x.cell, A: x.a, Weight: 1}
		if l := whereTrue(t, 3, 3, r); !slices.Equal(l, x.want) {
			t.Errorf("%d: Clear %v = %v", i, x, l)
		}
	}
}

// TestStrip is P3.2 of what lies in some rows and columns: those outside the chart do not matter.
func TestStrip(t *testing.T) {
	for i, x := range []struct {
		a, b, c, d int
		want       []int
	}{
		{0, 0, 0, 0, []int{0}}, {0, 0, 0, 200, []int{0, 1, 2, 3}}, {0, 200, 0, 0, []int{0, 4, 8}}, {1, 2, 1, 2, []int{5, 6, 9, 10}},
		{2, 2, 3, 3, []int{11}}, {2, 9, 2, 9, []int{10, 11}}, {3, 9, 0, 9, nil}, {0, 9, 4, 9, nil}, {0, 200, 0, 200, upTo(12)}, {200, 200, 200, 200, nil},
	} {
		r := api.Report{Kind: api.Strip, A: x.a, B: x.b, C: x.c, D: x.d, Weight: 1}
		if l := whereTrue(t, 4, 3, r); !slices.Equal(l, x.want) {
			t.Errorf("%d: Strip %v = %v", i, x, l)
		}
	}
}

// TestBeam is P3.2 of what lies between directions: the edges count, the cell itself does not, and nothing behind it.
func TestBeam(t *testing.T) {
	for i, x := range []struct {
		cell       int
		a, b, c, d int
		want       []int
	}{
		// along one line, each way, whatever the length of the directions
		{12, 1, 0, 1, 0, []int{13, 14}}, {12, 200, 0, 3, 0, []int{13, 14}}, {12, -1, 0, -2, 0, []int{10, 11}},
		{12, 0, 1, 0, 3, []int{22}}, {12, 0, -1, 0, -1, []int{2}}, {12, 1, 2, 1, 2, []int{17, 23}}, {12, -1, -2, -2, -4, []int{1, 6}},
		{12, 3, 2, 3, 2, []int{18}}, {12, -3, 2, -3, 2, []int{15}}, {12, 1, 1, 1, 1, []int{24}}, {12, 99, 100, 99, 100, nil}, {12, 7, 1, 7, 1, nil},
		// between two, less than half a turn apart
		{12, 1, 0, 0, 1, []int{13, 14, 17, 18, 19, 22, 23, 24}}, {12, 0, 1, -1, 0, []int{10, 11, 15, 16, 20, 21, 22}},
		{12, -1, 0, 0, -1, []int{0, 1, 2, 5, 6, 10, 11}}, {12, 0, -1, 1, 0, []int{2, 3, 4, 7, 8, 9, 13, 14}},
		{12, 1, 2, -1, 2, []int{16, 17, 21, 22, 23}}, {12, 1, 0, -200, 1, []int{13, 14, 15, 16, 17, 18, 19, 20, 21, 22, 23, 24}},
		{12, 200, 199, -1, 200, []int{17, 22, 23, 24}}, {12, 199, 200, -1, 200, []int{17, 22, 23}},
		// at the edge of the chart, and out of it
		{0, 1, 0, 1, 2, []int{1, 2, 3, 4, 5, 6, 7, 8, 9, 11, 12, 13, 14, 16, 17, 18, 19, 22, 23, 24}}, {0, -1, 0, 0, -1, nil}, {24, 1, 0, 0, 1, nil}, {24, 0, 1, -1, 1, nil},
	} {
		r := api.Report{Kind: api.Beam, Cell: x.cell, A: x.a, B: x.b, C: x.c, D: x.d, Weight: 1}
		if l := whereTrue(t, 5, 5, r); !slices.Equal(l, x.want) {
			t.Errorf("%d: Beam %v = %v", i, x, l)
		}
	}
}

// TestKindsOneByOne holds reports of all kinds against the angles and steps between cells.
func TestKindsOneByOne(t *testing.T) {
	r := rand.New(rand.NewPCG(4, 4))
	for range 1500 {
		d := still(1+r.IntN(9), 1+r.IntN(9), 5, 1, 0)
		x := someReport(r, d)
		if x.Kind == api.Beam && r.IntN(2) == 0 {
			for turn := 0; turn <= 0; turn = x.A*x.D - x.B*x.C {
				x.A, x.B, x.C, x.D = r.IntN(401)-200, r.IntN(401)-200, r.IntN(401)-200, r.IntN(401)-200
			}
		}
		m := try(with(d, x))
		want := m.where(0, func(truth int) bool { return truth == 1 })
		if l := whereTrue(t, d.Chart.Wide, d.Chart.High, x); !slices.Equal(l, want) {
			t.Fatalf("%v on %d by %d cells: %v, want %v", x, d.Chart.Wide, d.Chart.High, l, want)
		}
	}
}

// TestTickOfReport: a report tells of its own tick alone.
func TestTickOfReport(t *testing.T) {
	free := still(3, 1, 5, 3, 5)
	for tick := range 3 {
		for k := range 3 {
			want := upTo(3)
			if k == tick {
				want = []int{2}
			}
			if l := mustWhere(t, with(free, at(tick, 2)), k); !slices.Equal(l, want) {
				t.Errorf("at 2 in %d: Where in %d = %v", tick, k, l)
			}
		}
	}
}
