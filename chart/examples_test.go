package chart_test

import (
	"slices"
	"testing"

	"coble/api"
	"coble/chart"
)

// TestExamples holds the chapter's table of examples.
func TestExamples(t *testing.T) {
	c := sea()
	for d, want := range []int{6, 10, 9, 4, 1, 2} {
		if n, e := chart.Next(c, 5, d); n != want || e != api.OK {
			t.Errorf("Next(5, %d) = %d, %d", d, n, e)
		}
	}
	if n, e := chart.Next(c, 4, 3); n != 0 || e != api.ErrNone {
		t.Errorf("Next(4, 3) = %d, %d", n, e)
	}
	if n := mustApart(t, c, 0, 11); n != 4 {
		t.Errorf("Apart(0, 11) = %d", n)
	}
	if n := mustApart(t, c, 4, 6); n != 2 {
		t.Errorf("Apart(4, 6) = %d", n)
	}
	for tick, want := range map[int]api.Span{0: span(15, 19), 2: span(35, 41)} {
		if s, e := chart.Water(c, 6, tick); s != want || e != api.OK {
			t.Errorf("Water(6, %d) = %v, %d", tick, s, e)
		}
	}
	for _, x := range []struct {
		draught, tick int
		sure, may     bool
	}{{20, 0, false, false}, {20, 1, true, true}, {20, 2, true, true}, {18, 0, false, true}} {
		if sure, may := mustFloats(t, c, x.draught, 6, x.tick); sure != x.sure || may != x.may {
			t.Errorf("Floats(%d, 6, %d) = %v, %v", x.draught, x.tick, sure, may)
		}
	}
}

func TestExamplesOfPassages(t *testing.T) {
	c := sea()
	if l := mustArrive(t, c, 20, 4, 0); !slices.Equal(l, []int{2, 2, -1, -1, 0, 1, 2, -1, 1, 1, 2, 3}) {
		t.Errorf("Arrive = %v", l)
	}
	if l, e := chart.Passage(c, 20, 4, 0, 11); e != api.OK || !slices.Equal(l, []int{4, 5, 6, 11}) {
		t.Errorf("Passage to 11 = %v, %d", l, e)
	}
	if l, e := chart.Passage(c, 20, 4, 0, 7); e != api.ErrNone || len(l) > 0 {
		t.Errorf("Passage to 7 = %v, %d", l, e)
	}
	if l := mustDepart(t, c, 20, 4, 4); !slices.Equal(l, []int{2, 2, -1, -1, 4, 3, 2, -1, 3, 3, 2, 1}) {
		t.Errorf("Depart = %v", l)
	}
	if l := mustMoves(t, c, 20, 4, 0, 4); !slices.Equal(l, []int{-1, -1, -1, -1, 0, 1, -1, -1, 1, 1, 2, 3}) {
		t.Errorf("Moves = %v", l)
	}
	r := api.Ramp{Cell: 5, Draught: 20, Least: 12, Most: 30, Surf: 5}
	sure, may := mustWindows(t, c, r)
	if !slices.Equal(sure, []api.Span{span(1, 1), span(3, 3)}) || !slices.Equal(may, []api.Span{span(0, 4)}) {
		t.Errorf("Windows = %v, %v", sure, may)
	}
	r.Surf = 4
	if sure, may := mustWindows(t, c, r); len(sure) > 0 || len(may) > 0 {
		t.Errorf("Windows with Surf 4 = %v, %v", sure, may)
	}
}
