package plot

import (
	"etchhouse/api"
	"etchhouse/shape"
)

// change says what becomes of the names of tools, of their rectangles, of places and points, and of the distances of repeats.
type change struct {
	name            func(string) string
	rect            func(api.Rect) api.Rect
	place, distance func(api.Point) api.Point
}

func unchanged[E any](e E) E { return e }

// noChange has what can be replaced.
func noChange() change {
	return change{unchanged[string], unchanged[api.Rect], unchanged[api.Point], unchanged[api.Point]}
}

// plot returns a changed plot; it is new memory also where nothing changes.
func (c change) plot(p api.Plot) api.Plot {
	tools := mapped(p.Tools, func(t api.PlotTool) api.PlotTool {
		return api.PlotTool{Name: c.name(t.Name), Rects: mapped(t.Rects, c.rect)}
	})
	return api.Plot{Unit: p.Unit, Tools: tools, Steps: mapped(p.Steps, c.step)}
}

func (c change) step(s api.PlotStep) api.PlotStep {
	switch s.Kind {
	case api.StepUse:
		s.Name = c.name(s.Name)
	case api.StepMove, api.StepFlash, api.StepLine:
		s.At = c.place(s.At)
	case api.StepRepeat:
		s.At = c.distance(s.At)
	}
	s.Points = mapped(s.Points, c.place)
	s.Steps = mapped(s.Steps, c.step)
	return s
}

// moving returns the change that moves what is drawn.
func moving(by api.Point) change {
	c := noChange()
	c.place = func(p api.Point) api.Point { return sum(p, by) }
	return c
}

// flat returns a plot that is right without repeats.
func flat(p api.Plot) api.Plot {
	out := noChange().plot(api.Plot{Unit: p.Unit, Tools: p.Tools})
	for s, by := range done(p.Steps) {
		out.Steps = append(out.Steps, moving(by).step(s))
	}
	return out
}

// checked returns a plot that was made of others. They were right, but what is moved, or put together, can be more than a plot may have.
func checked(p api.Plot) (api.Plot, api.Fault) {
	if f := CheckPlot(p); f != api.OK {
		return api.Plot{}, f
	}
	return p, api.OK
}

// Flat returns a plot without repeats: they are written out.
func Flat(p api.Plot) (api.Plot, api.Fault) {
	if f := CheckPlot(p); f != api.OK {
		return api.Plot{}, f
	}
	return checked(flat(p))
}

// scaled returns a plot that is right with another unit; false if some number would be no whole one. What it returns is right, too: all lengths are the same in micrometres, and nothing else changes.
func scaled(p api.Plot, unit int) (api.Plot, bool) {
	whole := true
	number := func(n int) int {
		whole = whole && n*p.Unit%unit == 0
		return n * p.Unit / unit
	}
	point := func(p api.Point) api.Point { return api.Point{X: number(p.X), Y: number(p.Y)} }
	rect := func(r api.Rect) api.Rect {
		return api.Rect{X0: number(r.X0), Y0: number(r.Y0), X1: number(r.X1), Y1: number(r.Y1)}
	}
	out := change{unchanged[string], rect, point, point}.plot(p)
	out.Unit = unit
	if !whole {
		return api.Plot{}, false
	}
	return out, true
}

// Scaled returns a plot with another unit, and false if some number would be no whole one.
func Scaled(p api.Plot, unit int) (api.Plot, bool, api.Fault) {
	if f := CheckPlot(p); f != api.OK {
		return api.Plot{}, false, f
	}
	if unit < 1 || unit > api.MaxUnit {
		return api.Plot{}, false, api.ErrRange
	}
	out, ok := scaled(p, unit)
	return out, ok, api.OK
}

// inUnits returns a point of micrometres in units; ErrForm if it has none there.
func inUnits(p api.Point, unit int) (api.Point, api.Fault) {
	if p.X%unit != 0 || p.Y%unit != 0 {
		return api.Point{}, api.ErrForm
	}
	return api.Point{X: p.X / unit, Y: p.Y / unit}, api.OK
}

// Moved returns a plot with all that is drawn moved.
func Moved(p api.Plot, by api.Point) (api.Plot, api.Fault) {
	if f := CheckPlot(p); f != api.OK {
		return api.Plot{}, f
	}
	if !pointInRange(by) {
		return api.Plot{}, api.ErrRange
	}
	far, f := inUnits(by, p.Unit)
	if f != api.OK {
		return api.Plot{}, f
	}
	return checked(moving(far).plot(p))
}

// TurnedPlot returns a plot whose image is turned.
func TurnedPlot(p api.Plot, t api.Turn) (api.Plot, api.Fault) {
	if f := CheckPlot(p); f != api.OK {
		return api.Plot{}, f
	}
	if f := shape.CheckTurn(t); f != api.OK {
		return api.Plot{}, f
	}
	at, f := inUnits(t.At, p.Unit)
	if f != api.OK {
		return api.Plot{}, f
	}
	around := turning(t)
	c := noChange()
	c.rect = func(r api.Rect) api.Rect {
		a, b := around(api.Point{X: r.X0, Y: r.Y0}), around(api.Point{X: r.X1, Y: r.Y1})
		return hull(api.Rect{X0: a.X, Y0: a.Y, X1: a.X, Y1: a.Y}, api.Rect{X0: b.X, Y0: b.Y, X1: b.X, Y1: b.Y})
	}
	c.place = func(p api.Point) api.Point { return sum(around(p), at) }
	return checked(c.plot(flat(p)))
}

// turning returns what turns points around the point 0, 0. It asks only where a step along each axis comes: for repeats can lead far beyond the points that can be turned.
func turning(t api.Turn) func(api.Point) api.Point {
	t.At = api.Point{}
	alongX, _ := shape.Turned(api.Point{X: 1}, t)
	alongY, _ := shape.Turned(api.Point{Y: 1}, t)
	return func(p api.Point) api.Point {
		return api.Point{X: p.X*alongX.X + p.Y*alongY.X, Y: p.X*alongX.Y + p.Y*alongY.Y}
	}
}

// Joined returns the plot that draws b behind a.
func Joined(a, b api.Plot) (api.Plot, api.Fault) {
	if f := checkBoth(a, b); f != api.OK {
		return api.Plot{}, f
	}
	unit := commonDivisor(a.Unit, b.Unit)
	first, second := renamed(a, unit, "a-"), renamed(b, unit, "b-")
	out := api.Plot{Unit: unit, Tools: append(first.Tools, second.Tools...)}
	out.Steps = append(first.Steps, api.PlotStep{Kind: api.StepDark})
	out.Steps = append(out.Steps, second.Steps...)
	return checked(out)
}

func commonDivisor(a, b int) int {
	for b > 0 {
		a, b = b, a%b
	}
	return a
}

// renamed returns a plot with a unit that divides its own, and longer names of tools.
func renamed(p api.Plot, unit int, ahead string) api.Plot {
	out, _ := scaled(p, unit)
	c := noChange()
	c.name = func(name string) string { return ahead + name }
	return c.plot(out)
}
