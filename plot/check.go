// Package plot has the language of plotters: what plots draw, their texts, other ways to write them, and plots of regions.
package plot

import (
	"etchhouse/api"
	"etchhouse/shape"
)

// isName says whether a text can be the name of a tool.
func isName(s string) bool {
	if len(s) < 1 || len(s) > api.MaxName || !isLetter(s[0]) {
		return false
	}
	for i := range len(s) {
		if !isLetter(s[i]) && !isDigit(s[i]) && s[i] != '_' && s[i] != '-' {
			return false
		}
	}
	return true
}

func isLetter(b byte) bool {
	return 'A' <= b && b <= 'Z' || 'a' <= b && b <= 'z'
}

func isDigit(b byte) bool {
	return '0' <= b && b <= '9'
}

func inRange(n int) bool {
	return n >= -api.MaxAt && n <= api.MaxAt
}

func pointInRange(p api.Point) bool {
	return inRange(p.X) && inRange(p.Y)
}

// CheckPlot validates a plot.
func CheckPlot(p api.Plot) api.Fault {
	if p.Unit < 1 || p.Unit > api.MaxUnit {
		return api.ErrRange
	}
	if len(p.Tools) > api.MaxTools {
		return api.ErrLarge
	}
	c := checker{unit: p.Unit, tools: map[string]bool{}}
	for i, t := range p.Tools {
		if f := c.tool(t); f != api.OK {
			return f
		}
		if i > 0 && t.Name <= p.Tools[i-1].Name {
			return api.ErrOrder
		}
		c.tools[t.Name] = true
	}
	if counted(p.Steps, api.MaxSteps) > api.MaxSteps {
		return api.ErrLarge
	}
	return c.steps(p.Steps, 0)
}

// counted returns how many steps are done, and most + 1 if they are more than most: also steps that hold one another without an end are counted so.
func counted(steps []api.PlotStep, most int) int {
	n := 0
	for _, s := range steps {
		n++
		if n <= most && s.Kind == api.StepRepeat {
			n += times(s.NX) * times(s.NY) * counted(s.Steps, most-n)
		}
		if n > most {
			return most + 1
		}
	}
	return n
}

// times is how often steps count that are done n times.
func times(n int) int {
	if n < 1 || n > api.MaxRepeat {
		return 1
	}
	return n
}

// checker validates tools and steps of a plot of this unit.
type checker struct {
	unit  int
	tools map[string]bool
}

func (c *checker) tool(t api.PlotTool) api.Fault {
	if !isName(t.Name) {
		return api.ErrName
	}
	if len(t.Rects) == 0 {
		return api.ErrNone
	}
	return shape.CheckRects(mapped(t.Rects, func(r api.Rect) api.Rect {
		return api.Rect{X0: c.scaled(r.X0), Y0: c.scaled(r.Y0), X1: c.scaled(r.X1), Y1: c.scaled(r.Y1)}
	}))
}

// scaled returns a number in micrometres. One that is out of range stays as it is: so it is out of range still, and too large for nothing.
func (c *checker) scaled(n int) int {
	if !inRange(n) {
		return n
	}
	return n * c.unit
}

// steps validates steps that lie within so many repeats.
func (c *checker) steps(l []api.PlotStep, within int) api.Fault {
	for _, s := range l {
		if f := c.step(s, within); f != api.OK {
			return f
		}
	}
	return api.OK
}

func (c *checker) step(s api.PlotStep, within int) api.Fault {
	switch {
	case s.Kind < api.StepDark || s.Kind > api.StepRepeat:
		return api.ErrKind
	case hasMore(s):
		return api.ErrForm
	case s.Kind == api.StepUse && !c.tools[s.Name]:
		return api.ErrName
	case !c.mayBeAt(s.At):
		return api.ErrRange
	}
	for _, p := range s.Points {
		if !c.mayBeAt(p) {
			return api.ErrRange
		}
	}
	switch s.Kind {
	case api.StepArea:
		return checkRow(s.Points)
	case api.StepRepeat:
		return c.repeat(s, within)
	}
	return api.OK
}

// hasMore says whether a field that the kind of a step does not have is not zero.
func hasMore(s api.PlotStep) bool {
	switch s.Kind {
	case api.StepUse:
		s.Name = ""
	case api.StepMove, api.StepFlash, api.StepLine:
		s.At = api.Point{}
	case api.StepArea:
		s.Points = nil
	case api.StepRepeat:
		s.NX, s.NY, s.At, s.Steps = 0, 0, api.Point{}, nil
	}
	return s.Name != "" || s.At != api.Point{} || len(s.Points) > 0 || s.NX != 0 || s.NY != 0 || len(s.Steps) > 0
}

func (c *checker) mayBeAt(p api.Point) bool {
	return inRange(c.scaled(p.X)) && inRange(c.scaled(p.Y))
}

// checkRow validates a closed row of points that are in range.
func checkRow(row []api.Point) api.Fault {
	if len(row) > api.MaxCorner {
		return api.ErrLarge
	}
	if len(row) < 4 {
		return api.ErrForm
	}
	before := row[len(row)-1]
	for _, p := range row {
		if (p.X == before.X) == (p.Y == before.Y) {
			return api.ErrForm
		}
		before = p
	}
	return api.OK
}

func (c *checker) repeat(s api.PlotStep, within int) api.Fault {
	switch {
	case s.NX < 1 || s.NX > api.MaxRepeat || s.NY < 1 || s.NY > api.MaxRepeat:
		return api.ErrRange
	case len(s.Steps) == 0:
		return api.ErrNone
	case within >= api.MaxNesting:
		return api.ErrLarge
	}
	return c.steps(s.Steps, within+1)
}
