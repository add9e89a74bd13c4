package plot

import "etchhouse/api"

// none stands for no tool.
const none = -1

// state is how a machine stands between two steps.
type state struct {
	placed bool
	place  api.Point
	tool   int
	dark   bool
}

// stroke is what a flash, a line or an area draws; its region lies within its box.
type stroke struct {
	dark   bool
	box    api.Rect
	region func() field
}

// way is one of a tool, so far in both directions.
type way struct {
	tool int
	far  api.Point
}

// machine does the steps of a plot that is right. It tells the strokes, which whoever asks for them may refuse, and the ways, all in micrometres.
type machine struct {
	unit    int
	numbers map[string]int // of tools
	rects   [][]api.Rect   // of tools
	boxes   []api.Rect     // of tools
	ways    map[way]field  // what tools draw that begin at the point 0, 0
	now     state
	draw    func(stroke) api.Fault
	travel  func(from, to api.Point, lit bool)
}

func newMachine(p api.Plot, draw func(stroke) api.Fault) *machine {
	m := &machine{
		unit:    p.Unit,
		numbers: map[string]int{},
		ways:    map[way]field{},
		now:     state{tool: none, dark: true},
		draw:    draw,
		travel:  func(api.Point, api.Point, bool) {},
	}
	for i, t := range p.Tools {
		m.numbers[t.Name] = i
		rects := mapped(t.Rects, m.scaledRect)
		box := rects[0]
		for _, r := range rects {
			box = hull(box, r)
		}
		m.rects = append(m.rects, rects)
		m.boxes = append(m.boxes, box)
	}
	return m
}

func (m *machine) scaled(p api.Point) api.Point {
	return api.Point{X: p.X * m.unit, Y: p.Y * m.unit}
}

func (m *machine) scaledRect(r api.Rect) api.Rect {
	return api.Rect{X0: r.X0 * m.unit, Y0: r.Y0 * m.unit, X1: r.X1 * m.unit, Y1: r.Y1 * m.unit}
}

// run does steps from how the machine stands now.
func (m *machine) run(steps []api.PlotStep) api.Fault {
	for s, by := range done(steps) {
		if f := m.do(s, by); f != api.OK {
			return f
		}
	}
	return api.OK
}

func (m *machine) do(s api.PlotStep, by api.Point) api.Fault {
	to := m.scaled(sum(s.At, by))
	switch s.Kind {
	case api.StepDark, api.StepClear:
		m.now.dark = s.Kind == api.StepDark
	case api.StepUse:
		m.now.tool = m.numbers[s.Name]
	case api.StepMove:
		return m.move(to)
	case api.StepFlash:
		return m.flash(to)
	case api.StepLine:
		return m.line(to)
	case api.StepArea:
		return m.area(s.Points, by)
	}
	return api.OK
}

func (m *machine) move(to api.Point) api.Fault {
	if !pointInRange(to) {
		return api.ErrRange
	}
	m.reach(to, false)
	return api.OK
}

// reach sets the place.
func (m *machine) reach(to api.Point, lit bool) {
	if m.now.placed {
		m.travel(m.now.place, to, lit)
	}
	m.now.placed, m.now.place = true, to
}

func (m *machine) flash(to api.Point) api.Fault {
	if m.now.tool == none {
		return api.ErrState
	}
	s, f := m.strokeOf(to, to)
	if f != api.OK {
		return f
	}
	m.reach(to, false)
	return m.draw(s)
}

func (m *machine) line(to api.Point) api.Fault {
	from := m.now.place
	if m.now.tool == none || !m.now.placed {
		return api.ErrState
	}
	if from.X != to.X && from.Y != to.Y {
		return api.ErrForm
	}
	s, f := m.strokeOf(from, to)
	if f != api.OK {
		return f
	}
	m.reach(to, true)
	return m.draw(s)
}

// strokeOf returns what the tool draws on its way from a place in range to another one.
func (m *machine) strokeOf(from, to api.Point) (stroke, api.Fault) {
	least := api.Point{X: min(from.X, to.X), Y: min(from.Y, to.Y)}
	w := way{m.now.tool, api.Point{X: max(from.X, to.X) - least.X, Y: max(from.Y, to.Y) - least.Y}}
	box := m.boxes[w.tool]
	box = api.Rect{X0: box.X0 + least.X, Y0: box.Y0 + least.Y, X1: box.X1 + least.X + w.far.X, Y1: box.Y1 + least.Y + w.far.Y}
	if !pointInRange(to) || !rectInRange(box) {
		return stroke{}, api.ErrRange
	}
	return stroke{m.now.dark, box, func() field { return m.along(w).moved(least) }}, api.OK
}

func rectInRange(r api.Rect) bool {
	return inRange(r.X0) && inRange(r.Y0) && inRange(r.X1) && inRange(r.Y1)
}

// along returns what a tool draws on a way. The way goes along one axis: so each rectangle draws a longer one.
func (m *machine) along(w way) field {
	f, ok := m.ways[w]
	if !ok {
		f = gathered(mapped(m.rects[w.tool], func(r api.Rect) api.Rect {
			return api.Rect{X0: r.X0, Y0: r.Y0, X1: r.X1 + w.far.X, Y1: r.Y1 + w.far.Y}
		}), inEither)
		m.ways[w] = f
	}
	return f
}

// area draws what a row of points goes around. None of the points may leave the range, even where the row comes back at once, as it may not in a plot without repeats.
func (m *machine) area(row []api.Point, by api.Point) api.Fault {
	points := mapped(row, func(p api.Point) api.Point { return m.scaled(sum(p, by)) })
	box := api.Rect{X0: points[0].X, Y0: points[0].Y, X1: points[0].X, Y1: points[0].Y}
	for _, p := range points {
		if !pointInRange(p) {
			return api.ErrRange
		}
		box = hull(box, api.Rect{X0: p.X, Y0: p.Y, X1: p.X, Y1: p.Y})
	}
	return m.draw(stroke{m.now.dark, box, func() field { return filled(points, box.X1+1) }})
}

// filled returns the squares that an odd number of sides of a closed row has at its left; right is a place to the right of the row.
func filled(row []api.Point, right int) field {
	var rightOf []api.Rect
	before := row[len(row)-1]
	for _, p := range row {
		if p.X == before.X {
			rightOf = append(rightOf, api.Rect{X0: p.X, Y0: min(p.Y, before.Y), X1: right, Y1: max(p.Y, before.Y)})
		}
		before = p
	}
	return gathered(rightOf, inOneAlone)
}
