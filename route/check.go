// Package route has ways for nets on a grid with several layers: the cheapest ones, trees that join pins, and a router that gives up ways and begins again.
package route

import (
	"etchhouse/api"
	"etchhouse/texts"
)

// CheckGrid validates a grid.
func CheckGrid(g api.Grid) api.Fault {
	_, f := mazeOf(g)
	return f
}

// CheckCosts validates costs.
func CheckCosts(c api.Costs) api.Fault {
	if c.Step < 1 || c.Via < 1 {
		return api.ErrRange
	}
	for _, n := range []int{c.Step, c.Via, c.Turn, c.Against} {
		if n < 0 || n > api.MaxCost {
			return api.ErrRange
		}
	}
	return api.OK
}

// CheckWay validates a way.
func CheckWay(g api.Grid, w []api.Cell) api.Fault {
	m, f := mazeOf(g)
	if f != api.OK {
		return f
	}
	return m.checkWay(w)
}

func (m *maze) checkWay(w []api.Cell) api.Fault {
	if len(w) == 0 {
		return api.ErrNone
	}
	if len(w) > api.MaxCells {
		return api.ErrLarge
	}
	seen := map[api.Cell]bool{}
	for i, c := range w {
		if f := m.checkFree(c); f != api.OK {
			return f
		}
		if i > 0 && !areNeighbours(w[i-1], c) {
			return api.ErrForm
		}
		if seen[c] {
			return api.ErrTwice
		}
		seen[c] = true
	}
	return api.OK
}

// checkFree validates a cell that must not be blocked.
func (m *maze) checkFree(c api.Cell) api.Fault {
	if !m.has(c) {
		return api.ErrRange
	}
	if m.blocked[m.number(c)] {
		return api.ErrDenied
	}
	return api.OK
}

func areNeighbours(a, b api.Cell) bool {
	return apart(a.X, b.X)+apart(a.Y, b.Y)+apart(a.Layer, b.Layer) == 1
}

func apart(a, b int) int {
	return max(a-b, b-a)
}

// checkPins validates the pins of a net, which can have so many.
func (m *maze) checkPins(pins []api.Cell, most int) api.Fault {
	if len(pins) == 0 {
		return api.ErrNone
	}
	if len(pins) > most {
		return api.ErrLarge
	}
	seen := map[api.Cell]bool{}
	for _, c := range pins {
		if f := m.checkFree(c); f != api.OK {
			return f
		}
		if seen[c] {
			return api.ErrTwice
		}
		seen[c] = true
	}
	return api.OK
}

// CheckTasks validates tasks.
func CheckTasks(g api.Grid, t []api.Task) api.Fault {
	m, f := mazeOf(g)
	if f != api.OK {
		return f
	}
	_, f = m.checkTasks(t)
	return f
}

// owners tells to which task, by its place in the list of tasks, a cell belongs.
type owners map[api.Cell]int

// take gives cells to a task, and says whether none of them belongs to another one.
func (o owners) take(cells []api.Cell, task int) bool {
	for _, c := range cells {
		if other, taken := o[c]; taken && other != task {
			return false
		}
		o[c] = task
	}
	return true
}

// checkTasks validates tasks, and tells to which of them a pin belongs.
func (m *maze) checkTasks(t []api.Task) (owners, api.Fault) {
	if len(t) > api.MaxTasks {
		return nil, api.ErrLarge
	}
	pins := owners{}
	for i, one := range t {
		if !texts.IsPath(one.Net) {
			return nil, api.ErrName
		}
		if f := m.checkPins(one.Pins, api.MaxPins); f != api.OK {
			return nil, f
		}
		if !pins.take(one.Pins, i) {
			return nil, api.ErrTwice
		}
		if i > 0 && one.Net <= t[i-1].Net {
			return nil, api.ErrOrder
		}
	}
	return pins, api.OK
}
