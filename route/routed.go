package route

import (
	"slices"

	"etchhouse/api"
)

// CheckRouted validates what is routed.
func CheckRouted(g api.Grid, t []api.Task, r []api.Routed) api.Fault {
	m, f := mazeOf(g)
	if f != api.OK {
		return f
	}
	return m.checkRouted(t, r)
}

// checkRouted validates tasks, and then what is routed.
func (m *maze) checkRouted(t []api.Task, r []api.Routed) api.Fault {
	taken, f := m.checkTasks(t)
	if f != api.OK {
		return f
	}
	if len(r) > api.MaxTasks {
		return api.ErrLarge
	}
	places := placesOf(t)
	for i, one := range r {
		task, ok := places[one.Net]
		if !ok {
			return api.ErrNone
		}
		if i > 0 && one.Net <= r[i-1].Net {
			return api.ErrOrder
		}
		if f := m.checkWays(one.Ways); f != api.OK {
			return f
		}
		for _, w := range one.Ways {
			if !taken.take(w, task) {
				return api.ErrClash
			}
		}
		if !areJoined(t[task].Pins, one.Ways) {
			return api.ErrForm
		}
	}
	return api.OK
}

// placesOf tells where in the list the task of a net is.
func placesOf(t []api.Task) map[string]int {
	out := map[string]int{}
	for i, one := range t {
		out[one.Net] = i
	}
	return out
}

func (m *maze) checkWays(ways [][]api.Cell) api.Fault {
	if len(ways) > api.MaxPins {
		return api.ErrLarge
	}
	for _, w := range ways {
		if f := m.checkWay(w); f != api.OK {
			return f
		}
	}
	return api.OK
}

// areJoined says whether pins, and the cells of ways, all hang together by these ways.
func areJoined(pins []api.Cell, ways [][]api.Cell) bool {
	joinedTo := map[api.Cell]api.Cell{} // each cell but one of those that are joined leads, over others, to this one
	root := func(c api.Cell) api.Cell {
		for {
			next, ok := joinedTo[c]
			if !ok {
				return c
			}
			c = next
		}
	}
	for _, w := range ways {
		first := root(w[0])
		for _, c := range w {
			if other := root(c); other != first {
				joinedTo[other] = first
			}
		}
	}
	apart := func(c api.Cell) bool { return root(c) != root(pins[0]) }
	return !slices.ContainsFunc(pins, apart) && !slices.ContainsFunc(ways, func(w []api.Cell) bool { return apart(w[0]) })
}

// Total returns the cost of all ways, and how many tasks are not told.
func Total(g api.Grid, c api.Costs, t []api.Task, r []api.Routed) (int, int, api.Fault) {
	m, f := mazeFor(g, c)
	if f != api.OK {
		return 0, 0, f
	}
	if f := m.checkRouted(t, r); f != api.OK {
		return 0, 0, f
	}
	sum := 0
	for _, one := range r {
		for _, w := range one.Ways {
			sum += costOf(c, w)
		}
	}
	return sum, len(t) - len(r), api.OK
}

// Blocked returns the grid in which what is routed is blocked, too.
func Blocked(g api.Grid, t []api.Task, r []api.Routed) (api.Grid, api.Fault) {
	m, f := mazeOf(g)
	if f != api.OK {
		return api.Grid{}, f
	}
	if f := m.checkRouted(t, r); f != api.OK {
		return api.Grid{}, f
	}
	places := placesOf(t)
	for _, one := range r {
		m.block(m.numbers(t[places[one.Net]].Pins), true)
		for _, w := range one.Ways {
			m.block(m.numbers(w), true)
		}
	}
	out := api.Grid{W: g.W, H: g.H, Layers: g.Layers}
	for number, blocked := range m.blocked {
		if blocked {
			out.Blocked = append(out.Blocked, m.cell(number))
		}
	}
	return out, api.OK
}
