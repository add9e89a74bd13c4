package route

import "etchhouse/api"

// CostOf returns the cost of a way.
func CostOf(g api.Grid, c api.Costs, w []api.Cell) (int, api.Fault) {
	m, f := mazeFor(g, c)
	if f != api.OK {
		return 0, f
	}
	if f := m.checkWay(w); f != api.OK {
		return 0, f
	}
	return costOf(c, w), api.OK
}

// costOf returns the cost of a way without faults.
func costOf(c api.Costs, w []api.Cell) int {
	sum, last := 0, alongLayer
	for i := 1; i < len(w); i++ {
		var price int
		price, last = priced(c, w[i].Layer, last, stepAlong(w[i-1], w[i]))
		sum += price
	}
	return sum
}

func stepAlong(a, b api.Cell) axis {
	switch {
	case a.X != b.X:
		return alongX
	case a.Y != b.Y:
		return alongY
	}
	return alongLayer
}

// priced returns what a step costs, and along what the last step along X or Y behind it was. Where turns cost nothing this is not kept, since nothing depends on it: so a search has fewer states.
func priced(c api.Costs, layer int, last, along axis) (int, axis) {
	if along == alongLayer {
		return c.Via, last
	}
	price := c.Step
	if along == against(layer) {
		price += c.Against
	}
	if last != alongLayer && last != along {
		price += c.Turn
	}
	if c.Turn == 0 {
		return price, alongLayer
	}
	return price, along
}

// against is along what steps of a layer cost more.
func against(layer int) axis {
	if layer%2 == 0 {
		return alongY
	}
	return alongX
}
