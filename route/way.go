package route

import (
	"slices"

	"etchhouse/api"
)

// Least returns the least cost of a way, and whether there is one.
func Least(g api.Grid, c api.Costs, from, to api.Cell) (int, bool, api.Fault) {
	s, f := searchFrom(g, c, from, to)
	if f != api.OK {
		return 0, false, f
	}
	end, ok := s.nearest(s.numbers([]api.Cell{to}))
	if !ok {
		return 0, false, api.OK
	}
	return s.cost(end), true, api.OK
}

// Way returns the best way, and whether there is one.
func Way(g api.Grid, c api.Costs, from, to api.Cell) ([]api.Cell, bool, api.Fault) {
	s, f := searchFrom(g, c, from, to)
	if f != api.OK {
		return nil, false, f
	}
	end, ok := s.nearest(s.numbers([]api.Cell{to}))
	if !ok {
		return nil, false, api.OK
	}
	return s.cells(s.way(end)), true, api.OK
}

// Reach returns how many cells are reached with a cost.
func Reach(g api.Grid, c api.Costs, from api.Cell, most int) (int, api.Fault) {
	s, f := searchFrom(g, c, from)
	if f != api.OK {
		return 0, f
	}
	if !isWithin(most, 0, api.MaxReach) {
		return 0, api.ErrRange
	}
	s.spreadUpTo(most)
	reached := 0
	for cell := range s.labels {
		if s.cost(cell) <= most {
			reached++
		}
	}
	return reached, api.OK
}

// searchFrom validates a grid, costs and the ends of ways, and begins at the first of these.
func searchFrom(g api.Grid, c api.Costs, ends ...api.Cell) (*search, api.Fault) {
	m, f := mazeFor(g, c)
	if f != api.OK {
		return nil, f
	}
	if slices.ContainsFunc(ends, func(end api.Cell) bool { return !m.has(end) }) {
		return nil, api.ErrRange
	}
	for _, end := range ends {
		if f := m.checkFree(end); f != api.OK {
			return nil, f
		}
	}
	s := m.search(c)
	s.begin(m.number(ends[0]), 0)
	return s, api.OK
}
