package chart_test

import (
	"testing"

	"coble/api"
	"coble/chart"
)

// TestNextOfEachCell is P1.2 for all cells of C: inside, at each side and in each corner, in odd and even rows.
func TestNextOfEachCell(t *testing.T) {
	for cell, row := range [][]int{
		{1, 4, -1, -1, -1, -1}, {2, 5, 4, 0, -1, -1}, {3, 6, 5, 1, -1, -1}, {-1, 7, 6, 2, -1, -1},
		{5, 9, 8, -1, 0, 1}, {6, 10, 9, 4, 1, 2}, {7, 11, 10, 5, 2, 3}, {-1, -1, 11, 6, 3, -1},
		{9, -1, -1, -1, -1, 4}, {10, -1, -1, 8, 4, 5}, {11, -1, -1, 9, 5, 6}, {-1, -1, -1, 10, 6, 7},
	} {
		for d, want := range row {
			n, e := chart.Next(sea(), cell, d)
			if want < 0 && (e != api.ErrNone || n != 0) || want >= 0 && (e != api.OK || n != want) {
				t.Errorf("Next(%d, %d) = %d, %d", cell, d, n, e)
			}
		}
	}
}

// TestNextOnAllSizes is P1.2 and P1.11 for charts of all sizes.
func TestNextOnAllSizes(t *testing.T) {
	for wide := 1; wide <= api.MaxSide; wide++ {
		for high := 1; high <= api.MaxSide; high++ {
			nextOn(t, still(wide, high, -5, 1))
		}
	}
}

func nextOn(t *testing.T, c api.Chart) {
	for cell := range c.Depth {
		for d := range 6 {
			n, e := chart.Next(c, cell, d)
			want := beside(c, cell, d)
			if want < 0 {
				if n != 0 || e != api.ErrNone {
					t.Fatalf("%d x %d: Next(%d, %d) = %d, %d", c.Wide, c.High, cell, d, n, e)
				}
				continue
			}
			if n != want || e != api.OK {
				t.Fatalf("%d x %d: Next(%d, %d) = %d, %d", c.Wide, c.High, cell, d, n, e)
			}
			if again, e := chart.Next(c, n, (d+3)%6); again != cell || e != api.OK {
				t.Fatalf("%d x %d: Next(%d, %d) = %d, %d", c.Wide, c.High, n, (d+3)%6, again, e)
			}
		}
	}
}

func TestNextInvalid(t *testing.T) {
	c := sea()
	for _, x := range [][2]int{{-1, 0}, {12, 0}, {1 << 40, 0}, {0, 6}, {0, -1}, {5, 6}, {5, -6}, {-1, 6}, {3, 6}, {3, 9}} {
		if n, e := chart.Next(c, x[0], x[1]); n != 0 || e != api.ErrArg {
			t.Errorf("Next(%v) = %d, %d", x, n, e)
		}
	}
}

// TestApart is P1.3 on C: over land too.
func TestApart(t *testing.T) {
	c := sea()
	for _, x := range [][3]int{
		{0, 0, 0}, {3, 3, 0}, {0, 1, 1}, {0, 3, 3}, {1, 4, 1}, {0, 5, 2}, {2, 5, 1}, {1, 9, 2}, {0, 8, 2}, {2, 8, 3},
		{8, 3, 4}, {11, 0, 4}, {1, 3, 2}, {7, 4, 3}, {7, 8, 4}, {7, 0, 4}, {7, 2, 2}, {4, 11, 3},
	} {
		if n := mustApart(t, c, x[0], x[1]); n != x[2] {
			t.Errorf("Apart(%d, %d) = %d", x[0], x[1], n)
		}
	}
}

// TestApartOnSizes holds Apart against steps that are counted one by one.
func TestApartOnSizes(t *testing.T) {
	for _, size := range [][2]int{{1, 1}, {1, 12}, {12, 1}, {2, 7}, {7, 2}, {3, 5}, {6, 4}, {12, 12}} {
		c := still(size[0], size[1], -api.MaxDepth, 1)
		for a := range c.Depth {
			for b, want := range stepsFrom(c, a) {
				if n := mustApart(t, c, a, b); n != want {
					t.Fatalf("%v: Apart(%d, %d) = %d, want %d", size, a, b, n, want)
				}
			}
		}
	}
}

// stepsFrom counts the steps from a cell to all others, ring by ring.
func stepsFrom(c api.Chart, from int) []int {
	steps := make([]int, len(c.Depth))
	for i := range steps {
		steps[i] = -1
	}
	steps[from] = 0
	for ring := []int{from}; len(ring) > 0; {
		var next []int
		for _, cell := range ring {
			for d := range 6 {
				if n := beside(c, cell, d); n >= 0 && steps[n] < 0 {
					steps[n] = steps[cell] + 1
					next = append(next, n)
				}
			}
		}
		ring = next
	}
	return steps
}

func TestApartInvalid(t *testing.T) {
	for _, x := range [][2]int{{-1, 0}, {0, -1}, {12, 0}, {0, 12}, {12, 12}, {-1, -1}} {
		if n, e := chart.Apart(sea(), x[0], x[1]); n != 0 || e != api.ErrArg {
			t.Errorf("Apart(%v) = %d, %d", x, n, e)
		}
	}
}

// TestApartFollows is P1.11: the same in both directions, no way round is shorter, and 1 just for neighbours.
func TestApartFollows(t *testing.T) {
	c := still(4, 5, 0, 1)
	for a := range c.Depth {
		for b := range c.Depth {
			n := mustApart(t, c, a, b)
			if back := mustApart(t, c, b, a); back != n {
				t.Errorf("Apart(%d, %d) = %d, and back %d", a, b, n, back)
			}
			if (n == 1) != adjoin(c, a, b) || (n == 0) != (a == b) {
				t.Errorf("Apart(%d, %d) = %d", a, b, n)
			}
			for x := range c.Depth {
				if n > mustApart(t, c, a, x)+mustApart(t, c, x, b) {
					t.Errorf("Apart(%d, %d) = %d is more than by %d", a, b, n, x)
				}
			}
		}
	}
}
