package route

import (
	"slices"

	"etchhouse/api"
)

// Tree joins pins by ways, and says whether it can.
func Tree(g api.Grid, c api.Costs, pins []api.Cell) ([][]api.Cell, bool, api.Fault) {
	m, f := mazeFor(g, c)
	if f != api.OK {
		return nil, false, f
	}
	if f := m.checkPins(pins, api.MaxPins); f != api.OK {
		return nil, false, f
	}
	ways, ok := m.tree(c, m.numbers(pins))
	return m.cellsOfAll(ways), ok, api.OK
}

// tree returns the ways of a tree, and whether there is one.
func (m *maze) tree(c api.Costs, pins []int) ([][]int, bool) {
	if !m.hangTogether(pins) {
		return nil, false
	}
	s := m.search(c)
	s.begin(pins[0], 0)
	var ways [][]int
	for left := slices.Clone(pins[1:]); len(left) > 0; {
		pin, _ := s.nearest(left)
		way := s.way(pin)
		ways = append(ways, way)
		for _, cell := range way {
			s.begin(cell, 0)
		}
		left = slices.DeleteFunc(left, func(cell int) bool { return s.cost(cell) == 0 })
	}
	return ways, true
}

// hangTogether says whether there are ways between pins, whatever they cost: where there are none, this is known much sooner than by looking for the best ones.
func (m *maze) hangTogether(pins []int) bool {
	left := m.copied() // what is reached is blocked there
	left.block(pins[:1], true)
	isLeft := func(pin int) bool { return !left.blocked[pin] }
	reached := []int{pins[0]}
	for at := 0; at < len(reached) && slices.ContainsFunc(pins, isLeft); at++ {
		for next := range left.around(reached[at]) {
			left.blocked[next] = true
			reached = append(reached, next)
		}
	}
	return !slices.ContainsFunc(pins, isLeft)
}

func (m *maze) cellsOfAll(ways [][]int) [][]api.Cell {
	var out [][]api.Cell
	for _, w := range ways {
		out = append(out, m.cells(w))
	}
	return out
}

// LeastTree returns the least cost of any tree that joins pins, and whether there is one.
func LeastTree(g api.Grid, c api.Costs, pins []api.Cell) (int, bool, api.Fault) {
	m, f := mazeFor(g, c)
	if f != api.OK {
		return 0, false, f
	}
	most := api.MaxExactPins
	if len(m.blocked) > api.MaxExactCells {
		most = 0 // any pins are too many
	}
	if f := m.checkPins(pins, most); f != api.OK {
		return 0, false, f
	}
	cost := m.leastTree(api.Costs{Step: c.Step, Via: c.Via}, m.numbers(pins))
	if cost >= tooDear {
		return 0, false, api.OK
	}
	return cost, true, api.OK
}

// leastTree finds, for one set of pins (its bits) after the other, and each cell, the least cost of a tree that has them. Such a tree is the cell itself, or consists of two trees of fewer pins that meet in the cell, or of a way from another cell of which this is so.
func (m *maze) leastTree(c api.Costs, pins []int) int {
	sets := 1 << len(pins)
	trees := make([]*search, sets)
	for set := 1; set < sets; set++ {
		s := m.search(c)
		for i, pin := range pins {
			if set == 1<<i {
				s.begin(pin, 0)
			}
		}
		for part := (set - 1) & set; part > 0; part = (part - 1) & set {
			for cell := range m.blocked {
				if cost := trees[part].cost(cell) + trees[set-part].cost(cell); cost < tooDear {
					s.begin(cell, cost)
				}
			}
		}
		s.spreadUpTo(tooDear)
		trees[set] = s
	}
	return trees[sets-1].cost(pins[0])
}
