package drift_test

import (
	"math"
	"slices"
	"testing"

	"coble/api"
	"coble/drift"
)

// invalid returns drifts that are not valid, by what is wrong with them.
func invalid() map[string]api.Drift {
	l := map[string]api.Drift{"nothing": {}}
	add := func(name string, change func(d *api.Drift)) {
		d := copied(sea())
		change(&d)
		l[name] = d
	}
	add("chart", func(d *api.Drift) { d.Chart.Wide = 5 })
	add("swell", func(d *api.Drift) { d.Chart.Swell[4] = 101 })
	add("tide", func(d *api.Drift) { d.Chart.Tide[2] = span(3, 2) })
	add("chart alone", func(d *api.Drift) { d.Zones, d.Currents, d.Wind = nil, nil, nil })
	add("too few zones", func(d *api.Drift) { d.Zones = d.Zones[:11] })
	add("too many zones", func(d *api.Drift) { d.Zones = append(d.Zones, 0) })
	add("no zones", func(d *api.Drift) { d.Zones = nil })
	add("no currents", func(d *api.Drift) { d.Currents = nil })
	add("five currents", func(d *api.Drift) { d.Currents = slices.Repeat(d.Currents[:1], 5) })
	add("a zone without a current", func(d *api.Drift) { d.Currents = d.Currents[:1] })
	add("no wind", func(d *api.Drift) { d.Wind = nil })
	add("too little wind", func(d *api.Drift) { d.Wind = d.Wind[:3] })
	add("wind in the last tick", func(d *api.Drift) { d.Wind = append(d.Wind, d.Wind[0]) })
	for zone := range 2 {
		in := " in " + string(rune('0'+zone))
		add("current too short"+in, func(d *api.Drift) { d.Currents[zone] = d.Currents[zone][:3] })
		add("no current"+in, func(d *api.Drift) { d.Currents[zone] = nil })
		add("current in the last tick"+in, func(d *api.Drift) { d.Currents[zone] = append(d.Currents[zone], d.Wind[0]) })
	}
	for i, zone := range []int{-1, 2, 3, 4, math.MinInt, math.MaxInt} {
		add("no such zone "+string(rune('a'+i)), func(d *api.Drift) { d.Zones[3*i/2+1] = zone })
	}
	for i, p := range badPushes() {
		for tick := range 4 {
			in := " in " + string(rune('0'+tick)) + " " + string(rune('a'+i))
			add("wind"+in, func(d *api.Drift) { d.Wind[tick] = p })
			add("current"+in, func(d *api.Drift) { d.Currents[0][tick] = p })
			add("other current"+in, func(d *api.Drift) { d.Currents[1][tick] = p })
		}
	}
	return l
}

func badPushes() []api.Push {
	return []api.Push{
		{Dirs: 0}, {Dirs: -1}, {Dirs: 64}, {Dirs: math.MinInt}, {Dirs: math.MaxInt}, {Dirs: 0, Steps: span(0, 1)}, {Dirs: 65},
		{Dirs: 1, Steps: span(1, 0)}, {Dirs: 1, Steps: span(0, 4)}, {Dirs: 1, Steps: span(-1, 0)}, {Dirs: 1, Steps: span(4, 4)},
		{Dirs: 1, Steps: span(-2, -1)}, {Dirs: 1, Steps: span(0, math.MaxInt)}, {Dirs: 1, Steps: span(math.MinInt, 3)},
	}
}

// TestCheckInvalid is P2.1 of what is not valid.
func TestCheckInvalid(t *testing.T) {
	for name, d := range invalid() {
		if e := drift.Check(d); e != api.ErrDrift {
			t.Errorf("%s: Check: %d", name, e)
		}
	}
	// a chart of one tick has no pushes at all
	d := still(1, 1, 0, 1)
	d.Wind = []api.Push{{Dirs: 1}}
	if e := drift.Check(d); e != api.ErrDrift {
		t.Errorf("Check of wind in the only tick: %d", e)
	}
}

// TestCheck is P2.1 of what is just valid.
func TestCheck(t *testing.T) {
	for i, change := range []func(d *api.Drift){
		func(d *api.Drift) {},
		func(d *api.Drift) { d.Wind[3] = api.Push{Dirs: 63, Steps: span(0, 3)} },
		func(d *api.Drift) { d.Wind[0] = api.Push{Dirs: 32, Steps: span(3, 3)} },
		func(d *api.Drift) { d.Currents[1][3] = api.Push{Dirs: 63, Steps: span(3, 3)} },
		func(d *api.Drift) { d.Currents[0][0] = api.Push{Dirs: 1, Steps: span(2, 3)} },
		func(d *api.Drift) { d.Currents = slices.Repeat(d.Currents, 2); d.Zones[0], d.Zones[11] = 3, 2 },
		func(d *api.Drift) { d.Zones = make([]int, 12) },
		func(d *api.Drift) { d.Zones = make([]int, 12); d.Currents = d.Currents[:1] },
	} {
		d := copied(sea())
		change(&d)
		if e := drift.Check(d); e != api.OK {
			t.Errorf("%d: Check: %d", i, e)
		}
	}
	for _, d := range []api.Drift{still(1, 1, 0, 1), still(12, 12, 1000, 60), still(12, 1, -1000, 2)} {
		if e := drift.Check(d); e != api.OK {
			t.Errorf("Check(%v): %d", d, e)
		}
	}
	d := still(2, 2, 5, 1)
	d.Wind, d.Currents = nil, [][]api.Push{nil}
	if e := drift.Check(d); e != api.OK {
		t.Errorf("Check without pushes: %d", e)
	}
}

func badDrifters() []api.Drifter {
	one := []int{4}
	return []api.Drifter{
		{}, {Cells: []int{}}, {Cells: []int{12}}, {Cells: []int{-1}}, {Cells: []int{-1, 4}}, {Cells: []int{4, 12}},
		{Cells: []int{4, 4}}, {Cells: []int{5, 4}}, {Cells: []int{1, 3, 2}}, {Cells: []int{1, 2, 2}}, {Cells: []int{math.MinInt, 4}},
		{At: 5, Cells: one}, {At: -1, Cells: one}, {At: math.MaxInt, Cells: one}, {At: math.MinInt, Cells: one},
		{Cells: one, Leeway: span(2, 1)}, {Cells: one, Leeway: span(0, 9)}, {Cells: one, Leeway: span(-1, 3)}, {Cells: one, Leeway: span(9, 9)},
		{Cells: one, Leeway: span(math.MinInt, math.MaxInt)}, {Cells: one, Leeway: span(-2, -1)},
	}
}

// badSightings are sightings of a drifter since the tick 1.
func badSightings() []api.Sighting {
	return []api.Sighting{
		{Tick: 5}, {Tick: 0}, {Tick: -1}, {Tick: math.MaxInt}, {Tick: math.MinInt}, {Tick: 0, Cells: []int{4}, Seen: true},
		{Tick: 1, Cells: []int{12}}, {Tick: 1, Cells: []int{-1}}, {Tick: 1, Cells: []int{3, 3}}, {Tick: 1, Cells: []int{4, 3}, Seen: true},
		{Tick: 1, Cells: []int{3, 12}}, {Tick: 1, Cells: []int{1, 3, 2}}, {Tick: 4, Cells: []int{math.MinInt}}, {Tick: 4, Cells: []int{math.MaxInt}},
	}
}

func badBodies() []api.Body {
	var l []api.Body
	for _, change := range []func(b *api.Body){
		func(b *api.Body) { b.Costs = nil },
		func(b *api.Body) { b.Costs = b.Costs[:1] },
		func(b *api.Body) { b.Costs = append(b.Costs, span(0, 0)) },
		func(b *api.Body) { b.Costs[0].High = 101 },
		func(b *api.Body) { b.Costs[1] = span(101, 101) },
		func(b *api.Body) { b.Costs[0].Low = 5 },
		func(b *api.Body) { b.Costs[1].Low = -1 },
		func(b *api.Body) { b.Costs[1] = span(math.MinInt, math.MaxInt) },
		func(b *api.Body) { b.Strength = span(2, 1) },
		func(b *api.Body) { b.Strength.High = 100001 },
		func(b *api.Body) { b.Strength.Low = -1 },
		func(b *api.Body) { b.Strength = span(math.MaxInt, math.MinInt) },
	} {
		b := body()
		change(&b)
		l = append(l, b)
	}
	return l
}
