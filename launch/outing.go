package launch

import (
	"slices"

	"coble/api"
	"coble/chart"
)

// What is decided about a launch: that the boat goes, or why it does not.
const (
	goes = iota
	notOpen
	notReached
	noVoyage
	noFuel
)

// The ticks of an outing are gone through onward on the way home, and back on the way out.
const (
	onward = 1
	back   = -1
)

// never is the price of what cannot be: no voyage has as great a one.
const never = 1 << 40

// outing is a launch of a boat in a tick; its chart ends when the sea gets too rough.
//
// The price of a way is what it burns, times MaxTicks, and the number of its ticks but for the first one: so, as there are
// fewer ticks, the cheapest way is that which ends soonest of those that burn as little as can be.
type outing struct {
	station
	start int
	first []int   // the first tick in which the boat can be in each cell
	near  [][]int // the neighbours of each cell
	out   [][]int // for each tick, the least price for which the boat comes to each cell
	home  [][]int // for each tick, the least price for which it comes home from each cell
}

// launch returns the outing that begins in a tick. It has no ways if the boat cannot be launched.
func (s station) launch(tick int) outing {
	o := outing{station: s, start: tick, first: s.reach(tick)}
	if !s.isOpen(tick) {
		return o
	}
	o.Chart = s.calm(tick)
	o.near = o.neighbours()
	o.out, o.home = make([][]int, len(o.Tide)), make([][]int, len(o.Tide))
	o.goOut()
	o.goHome()
	return o
}

// neighbours returns the neighbours of each cell.
func (s station) neighbours() [][]int {
	near := make([][]int, len(s.Depth))
	for cell := range near {
		for direction := range 6 {
			if n, e := chart.Next(s.Chart, cell, direction); e == api.OK {
				near[cell] = append(near[cell], n)
			}
		}
	}
	return near
}

func (o outing) goOut() {
	row := o.all(never)
	row[o.slip] = 0
	o.out[o.start] = row
	for tick := o.start + 1; tick < len(o.out); tick++ {
		row = o.after(row, func(cell int) bool { return o.surelyFloats(cell, tick) })
		o.out[tick] = row
	}
}

// goHome does not ask where the boat floats: a cell in which it cannot be on its way out is on no way home.
func (o outing) goHome() {
	row := o.all(never)
	for tick := len(o.home) - 1; tick >= o.start; tick-- {
		row = o.after(row, func(cell int) bool { return o.out[tick][cell] < never })
		if o.isOpen(tick) {
			row[o.slip] = 0
		}
		o.home[tick] = row
	}
}

func (o outing) surelyFloats(cell, tick int) bool {
	sure, _, _ := chart.Floats(o.Chart, o.Draught, cell, tick)
	return sure
}

// after returns the least prices in a tick, from those in the tick gone through before it.
func (o outing) after(prices []int, may func(cell int) bool) []int {
	return o.row(func(cell int) int {
		if _, price := o.cheapest(prices, cell); price < never && may(cell) {
			return price
		}
		return never
	})
}

// cheapest returns from which cell the boat comes to a cell for the least price, and this price.
func (o outing) cheapest(prices []int, cell int) (from, price int) {
	from, price = cell, prices[cell]+priceOf(o.Idle)
	for _, n := range o.near[cell] {
		if p := prices[n] + priceOf(o.Move); p < price {
			from, price = n, p
		}
	}
	return from, price
}

// priceOf returns the price of a tick in which so much is burnt.
func priceOf(burns int) int { return burns*api.MaxTicks + 1 }

// burntFor returns what is burnt for a price.
func burntFor(price int) int { return price / api.MaxTicks }

// best returns when the boat comes to a call on the cheapest voyage, and the price of this voyage.
func (o outing) best(k api.Task) (tick, price int) {
	price = never
	for t := o.start; t+k.Stay < len(o.out); t++ {
		if p := o.priceFrom(k, t); p < price {
			tick, price = t, p
		}
	}
	return tick, price
}

// priceFrom returns the price of the cheapest voyage on which the boat stays at a call from a tick on.
func (o outing) priceFrom(k api.Task, tick int) int {
	until := tick + k.Stay
	for _, prices := range o.out[tick : until+1] {
		if prices[k.Cell] >= never {
			return never
		}
	}
	return min(never, o.out[tick][k.Cell]+k.Stay*priceOf(o.Idle)+o.home[until][k.Cell])
}

// reason decides about the launch to a call, with some fuel.
func (o outing) reason(k api.Task, fuel int) int {
	if !o.isOpen(o.start) {
		return notOpen
	}
	if o.first[k.Cell] < 0 {
		return notReached
	}
	_, price := o.best(k)
	if price >= never {
		return noVoyage
	}
	if burntFor(price)+o.Reserve > fuel {
		return noFuel
	}
	return goes
}

// voyage returns the cheapest voyage for a call for which there is one.
func (o outing) voyage(k api.Task) api.Voyage {
	tick, price := o.best(k)
	cells := o.trace(o.out, k.Cell, tick, back)
	slices.Reverse(cells)
	cells = append(cells, slices.Repeat([]int{k.Cell}, k.Stay)...)
	home := o.trace(o.home, k.Cell, tick+k.Stay, onward)
	return api.Voyage{Cells: append(cells, home[1:]...), Burns: burntFor(price)}
}

// trace returns the cells by which a price has come to a cell, from this cell on until nothing is left of the price.
func (o outing) trace(prices [][]int, cell, tick, step int) []int {
	cells := []int{cell}
	for prices[tick][cell] > 0 {
		tick += step
		cell, _ = o.cheapest(prices[tick], cell)
		cells = append(cells, cell)
	}
	return cells
}
