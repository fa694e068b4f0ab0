package launch_test

import (
	"slices"
	"testing"

	"coble/api"
)

// TestOpen is P5.2: the draught of the class counts and not that of the ramp; the tide has to be from Least to Most
// whatever it is; and the swell has to be at most Surf and Seas.
func TestOpen(t *testing.T) {
	for name, x := range map[string]struct {
		change func(c *api.Chart, b *api.Class, r *api.Ramp)
		want   []api.Span
	}{
		"as it is":                      {func(c *api.Chart, b *api.Class, r *api.Ramp) {}, []api.Span{span(0, 4)}},
		"a ramp for greater boats":      {func(c *api.Chart, b *api.Class, r *api.Ramp) { r.Draught = 100 }, []api.Span{span(0, 4)}},
		"a greater boat":                {func(c *api.Chart, b *api.Class, r *api.Ramp) { b.Draught = 26 }, []api.Span{span(1, 3)}},
		"a boat that just floats":       {func(c *api.Chart, b *api.Class, r *api.Ramp) { b.Draught = 25 }, []api.Span{span(0, 4)}},
		"a still greater one":           {func(c *api.Chart, b *api.Class, r *api.Ramp) { b.Draught = 45 }, []api.Span{span(2, 2)}},
		"too great":                     {func(c *api.Chart, b *api.Class, r *api.Ramp) { b.Draught = 46 }, nil},
		"Least just reached":            {func(c *api.Chart, b *api.Class, r *api.Ramp) { r.Least = 10 }, []api.Span{span(0, 4)}},
		"Least not surely":              {func(c *api.Chart, b *api.Class, r *api.Ramp) { r.Least = 11 }, []api.Span{span(1, 3)}},
		"Most just reached":             {func(c *api.Chart, b *api.Class, r *api.Ramp) { r.Most = 26 }, []api.Span{span(0, 1), span(3, 4)}},
		"Most not surely":               {func(c *api.Chart, b *api.Class, r *api.Ramp) { r.Most = 25 }, []api.Span{span(0, 0), span(4, 4)}},
		"Surf":                          {func(c *api.Chart, b *api.Class, r *api.Ramp) { r.Surf = 4 }, nil},
		"Seas":                          {func(c *api.Chart, b *api.Class, r *api.Ramp) { b.Seas = 4 }, nil},
		"a swell between Seas and Surf": {func(c *api.Chart, b *api.Class, r *api.Ramp) { r.Surf, c.Swell[2] = 9, 6 }, []api.Span{span(0, 1), span(3, 4)}},
		"a swell between Surf and Seas": {func(c *api.Chart, b *api.Class, r *api.Ramp) { b.Seas, c.Swell[1] = 9, 6 }, []api.Span{span(0, 0), span(2, 4)}},
		"in the last tick alone":        {func(c *api.Chart, b *api.Class, r *api.Ramp) { b.Seas, c.Swell[4] = 3, 3 }, []api.Span{span(4, 4)}},
	} {
		c, b, r := sea(), class(), ramp()
		x.change(&c, &b, &r)
		if l := mustOpen(t, c, b, r); !slices.Equal(l, x.want) {
			t.Errorf("%s: Open = %v", name, l)
		}
	}
}

// TestOpenTickByTick holds Open against each tick with each height of the tide: the spans have just those ticks in which
// the boat can be launched, and do not touch each other.
func TestOpenTickByTick(t *testing.T) {
	kinds := map[int]int{}
	for _, p := range puzzles(1, 3000, 3, 3, 8) {
		l := mustOpen(t, p.c, p.b, p.r)
		var ticks []int
		for i, s := range l {
			if s.Low > s.High || i > 0 && s.Low <= l[i-1].High+1 {
				t.Fatalf("Open of %v = %v", p, l)
			}
			for tick := s.Low; tick <= s.High; tick++ {
				ticks = append(ticks, tick)
			}
		}
		kinds[min(len(l), 2)]++
		var want []int
		for tick := range p.c.Tide {
			if p.at(tick).isOpen(tick) {
				want = append(want, tick)
			}
		}
		if !slices.Equal(ticks, want) {
			t.Fatalf("Open of %v = %v, not %v", p, l, want)
		}
	}
	if kinds[0] < 100 || kinds[1] < 100 || kinds[2] < 100 {
		t.Errorf("the puzzles are too much alike: %v", kinds)
	}
}

// TestReach is P5.3: each tick on the way has to be calm, and the boat has to be launched in the tick that is asked for.
func TestReach(t *testing.T) {
	p := puzzle{c: calm(4, 1, 50, 5), b: class(), r: slip(0)}
	for i, x := range []struct {
		swell, tick int
		want        []int
	}{
		{-1, 0, []int{0, 1, 2, 3}}, {0, 0, []int{-1, -1, -1, -1}}, {1, 0, []int{0, -1, -1, -1}}, {2, 0, []int{0, 1, -1, -1}}, {3, 0, []int{0, 1, 2, -1}},
		{4, 0, []int{0, 1, 2, 3}}, {0, 1, []int{1, 2, 3, 4}}, {1, 2, []int{2, 3, 4, -1}}, {2, 2, []int{-1, -1, -1, -1}}, {-1, 4, []int{4, -1, -1, -1}},
	} {
		q := p.at(x.tick)
		q.c = copied(p.c)
		if x.swell >= 0 {
			q.c.Swell[x.swell] = 6
		}
		if l := mustReach(t, q); !slices.Equal(l, x.want) {
			t.Errorf("%d: Reach = %v", i, l)
		}
	}
	p.r.Surf, p.c.Swell = 4, []int{4, 5, 5, 4, 4}
	if l := mustReach(t, p); !slices.Equal(l, []int{0, 1, 2, 3}) {
		t.Errorf("Reach through a swell that is too much for the ramp alone = %v", l)
	}
	if l := mustReach(t, p.at(1)); !slices.Equal(l, []int{-1, -1, -1, -1}) {
		t.Errorf("Reach of a boat that cannot be launched = %v", l)
	}
}

// TestReachOneByOne holds Reach against all passages.
func TestReachOneByOne(t *testing.T) {
	later := 0
	for _, p := range puzzles(2, 1500, 3, 3, 6) {
		want := slices.Repeat([]int{-1}, len(p.c.Depth))
		for cells := range p.passages() {
			cell, tick := cells[len(cells)-1], p.tick+len(cells)-1
			if want[cell] < 0 || tick < want[cell] {
				want[cell] = tick
			}
		}
		if l := mustReach(t, p); !slices.Equal(l, want) {
			t.Fatalf("Reach of %v = %v, not %v", p, l, want)
		}
		if slices.Max(want) > p.tick+1 {
			later++
		}
	}
	if later < 100 {
		t.Errorf("only %d puzzles lead further", later)
	}
}
