package route

import (
	"iter"
	"slices"

	"etchhouse/api"
)

// maze is a grid without faults. Its cells have numbers, from 0 on, in their order.
type maze struct {
	w, h, layers int
	blocked      []bool // by number
}

func mazeOf(g api.Grid) (*maze, api.Fault) {
	if !isWithin(g.W, 1, api.MaxSide) || !isWithin(g.H, 1, api.MaxSide) || !isWithin(g.Layers, 1, api.MaxGridLayers) {
		return nil, api.ErrRange
	}
	cells := g.W * g.H * g.Layers
	if cells > api.MaxCells || len(g.Blocked) > api.MaxCells {
		return nil, api.ErrLarge
	}
	m := &maze{g.W, g.H, g.Layers, make([]bool, cells)}
	before := -1
	for _, c := range g.Blocked {
		if !m.has(c) {
			return nil, api.ErrRange
		}
		number := m.number(c)
		if number <= before {
			return nil, api.ErrOrder
		}
		m.blocked[number] = true
		before = number
	}
	return m, api.OK
}

// mazeFor validates a grid, then costs.
func mazeFor(g api.Grid, c api.Costs) (*maze, api.Fault) {
	m, f := mazeOf(g)
	if f != api.OK {
		return nil, f
	}
	if f := CheckCosts(c); f != api.OK {
		return nil, f
	}
	return m, api.OK
}

func isWithin(n, least, most int) bool {
	return n >= least && n <= most
}

func (m *maze) has(c api.Cell) bool {
	return isWithin(c.X, 0, m.w-1) && isWithin(c.Y, 0, m.h-1) && isWithin(c.Layer, 0, m.layers-1)
}

func (m *maze) number(c api.Cell) int {
	return (c.Layer*m.h+c.Y)*m.w + c.X
}

func (m *maze) cell(number int) api.Cell {
	return api.Cell{X: number % m.w, Y: number / m.w % m.h, Layer: m.layer(number)}
}

func (m *maze) layer(number int) int {
	return number / (m.w * m.h)
}

func (m *maze) numbers(cells []api.Cell) []int {
	out := make([]int, 0, len(cells))
	for _, c := range cells {
		out = append(out, m.number(c))
	}
	return out
}

func (m *maze) cells(numbers []int) []api.Cell {
	out := make([]api.Cell, 0, len(numbers))
	for _, n := range numbers {
		out = append(out, m.cell(n))
	}
	return out
}

// copied returns a maze in which cells can be blocked, and this one stays as it is.
func (m *maze) copied() *maze {
	return &maze{m.w, m.h, m.layers, slices.Clone(m.blocked)}
}

func (m *maze) block(cells []int, blocked bool) {
	for _, n := range cells {
		m.blocked[n] = blocked
	}
}

// axis is where a step goes along.
type axis int

// Axes of steps.
const (
	alongLayer axis = iota // of the last step along X or Y: there is none
	alongX
	alongY
	axes
)

// around gives, in order, the neighbours of a cell that are not blocked, and along what the step to them goes.
func (m *maze) around(number int) iter.Seq2[int, axis] {
	return func(yield func(int, axis) bool) {
		c, plane := m.cell(number), m.w*m.h
		for _, step := range [...]struct {
			by    int
			along axis
			is    bool
		}{
			{-plane, alongLayer, c.Layer > 0},
			{-m.w, alongY, c.Y > 0},
			{-1, alongX, c.X > 0},
			{1, alongX, c.X < m.w-1},
			{m.w, alongY, c.Y < m.h-1},
			{plane, alongLayer, c.Layer < m.layers-1},
		} {
			if step.is && !m.blocked[number+step.by] && !yield(number+step.by, step.along) {
				return
			}
		}
	}
}
