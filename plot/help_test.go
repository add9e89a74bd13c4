package plot

import (
	"fmt"
	"math/rand/v2"
	"reflect"
	"slices"
	"strings"
	"testing"

	"etchhouse/api"
)

func wantFault(t *testing.T, what string, got, want api.Fault) {
	t.Helper()
	if got != want {
		t.Errorf("%s: fault %d, want %d", what, got, want)
	}
}

// want holds results against each other; nil and an empty list are the same.
func want(t *testing.T, what string, got, want any) {
	t.Helper()
	if g, w := fmt.Sprintf("%+v", got), fmt.Sprintf("%+v", want); g != w {
		t.Errorf("%s:\ngot  %s\nwant %s", what, g, w)
	}
}

// wantZero holds that a result that comes with a fault is zero.
func wantZero(t *testing.T, what string, got any) {
	t.Helper()
	v := reflect.ValueOf(got)
	if !v.IsZero() && !(v.Kind() == reflect.Slice && v.Len() == 0) {
		t.Errorf("%s: got %+v beside a fault", what, got)
	}
}

// text makes lines of what is divided by ";".
func text(s string) string {
	var out string
	for _, line := range strings.Split(s, ";") {
		out += strings.TrimSpace(line) + "\n"
	}
	return out
}

// plotOf reads lines divided by ";".
func plotOf(t *testing.T, s string) api.Plot {
	t.Helper()
	p, line, f := Read(text(s))
	if f != api.OK {
		t.Fatalf("%s: line %d, fault %d", s, line, f)
	}
	return p
}

// textOf is what Text should write of a plot that is right, divided by "; ".
func textOf(p api.Plot) string {
	out := []string{fmt.Sprint("unit ", p.Unit)}
	for _, t := range p.Tools {
		line := "tool " + t.Name
		for _, r := range t.Rects {
			line += fmt.Sprint(" ", r.X0, " ", r.Y0, " ", r.X1, " ", r.Y1)
		}
		out = append(out, line)
	}
	return strings.Join(append(out, linesOf(p.Steps)...), "; ")
}

func linesOf(steps []api.PlotStep) []string {
	var out []string
	names := []string{"", "dark", "clear", "use ", "move", "flash", "line", "area", "repeat "}
	for _, s := range steps {
		line := names[s.Kind] + s.Name
		if s.Kind == api.StepRepeat {
			line += fmt.Sprint(s.NX, " ", s.NY)
		}
		points := s.Points
		if s.Kind >= api.StepMove && s.Kind != api.StepArea {
			points = []api.Point{s.At}
		}
		for _, p := range points {
			line += fmt.Sprint(" ", p.X, " ", p.Y)
		}
		out = append(append(out, line), linesOf(s.Steps)...)
		if s.Kind == api.StepRepeat {
			out = append(out, "done")
		}
	}
	return out
}

func point(x, y int) api.Point { return api.Point{X: x, Y: y} }

func rect(x0, y0, x1, y1 int) api.Rect { return api.Rect{X0: x0, Y0: y0, X1: x1, Y1: y1} }

func points(l ...int) []api.Point {
	var out []api.Point
	for i := 0; i < len(l); i += 2 {
		out = append(out, point(l[i], l[i+1]))
	}
	return out
}

func dark() api.PlotStep                    { return api.PlotStep{Kind: api.StepDark} }
func clears() api.PlotStep                  { return api.PlotStep{Kind: api.StepClear} }
func use(name string) api.PlotStep          { return api.PlotStep{Kind: api.StepUse, Name: name} }
func move(x, y int) api.PlotStep            { return api.PlotStep{Kind: api.StepMove, At: point(x, y)} }
func flash(x, y int) api.PlotStep           { return api.PlotStep{Kind: api.StepFlash, At: point(x, y)} }
func line(x, y int) api.PlotStep            { return api.PlotStep{Kind: api.StepLine, At: point(x, y)} }
func area(l ...int) api.PlotStep            { return api.PlotStep{Kind: api.StepArea, Points: points(l...)} }
func block(x0, y0, x1, y1 int) api.PlotStep { return area(x0, y0, x1, y0, x1, y1, x0, y1) }

func repeat(nx, ny, x, y int, steps ...api.PlotStep) api.PlotStep {
	return api.PlotStep{Kind: api.StepRepeat, NX: nx, NY: ny, At: point(x, y), Steps: steps}
}

// onlySteps is a plot with the unit 1, and the tool t, a single square.
func onlySteps(steps ...api.PlotStep) api.Plot {
	return api.Plot{Unit: 1, Tools: []api.PlotTool{tool("t", rect(0, 0, 1, 1))}, Steps: steps}
}

func tool(name string, l ...api.Rect) api.PlotTool {
	return api.PlotTool{Name: name, Rects: l}
}

// column is so many squares, one over the other, that do not touch.
func column(x, many int) []api.Rect {
	var out []api.Rect
	for i := range many {
		out = append(out, rect(x, 2*i, x+1, 2*i+1))
	}
	return out
}

// cloned copies a plot in depth.
func cloned(p api.Plot) api.Plot {
	q := api.Plot{Unit: p.Unit, Steps: clonedSteps(p.Steps)}
	for _, t := range p.Tools {
		q.Tools = append(q.Tools, tool(t.Name, slices.Clone(t.Rects)...))
	}
	return q
}

func clonedSteps(l []api.PlotStep) []api.PlotStep {
	var out []api.PlotStep
	for _, s := range l {
		s.Points = slices.Clone(s.Points)
		s.Steps = clonedSteps(s.Steps)
		out = append(out, s)
	}
	return out
}

// tried calls a function many times with a source of numbers.
func tried(t *testing.T, times int, f func(rnd *rand.Rand)) {
	t.Helper()
	rnd := rand.New(rand.NewPCG(3, 14))
	for range times {
		if f(rnd); t.Failed() {
			return
		}
	}
}

// randomPlot has small numbers; most of its images have no fault.
func randomPlot(rnd *rand.Rand) api.Plot {
	p := api.Plot{Unit: 1 + rnd.IntN(3)}
	for _, name := range []string{"a", "b-1", "c_"}[:1+rnd.IntN(3)] {
		p.Tools = append(p.Tools, tool(name, randomRects(rnd, 3)...))
	}
	if rnd.IntN(8) > 0 {
		p.Steps = append(p.Steps, use("a"))
	}
	if rnd.IntN(8) > 0 {
		p.Steps = append(p.Steps, move(0, 0))
	}
	g := generator{rnd: rnd, tools: len(p.Tools)}
	p.Steps = append(p.Steps, g.steps(2+rnd.IntN(10), 0)...)
	return p
}

func randomRects(rnd *rand.Rand, most int) []api.Rect {
	var out []api.Rect
	for range 1 + rnd.IntN(most) {
		x, y := rnd.IntN(4)-2, rnd.IntN(4)-2
		out = append(out, rect(x, y, x+1+rnd.IntN(3), y+1+rnd.IntN(3)))
	}
	return out
}

type generator struct {
	rnd   *rand.Rand
	tools int
	at    api.Point
}

func (g *generator) steps(many, within int) []api.PlotStep {
	var out []api.PlotStep
	for range many {
		out = append(out, g.step(within))
	}
	return out
}

func (g *generator) step(within int) api.PlotStep {
	far := func() int { return g.rnd.IntN(9) - 4 }
	switch n := g.rnd.IntN(20); {
	case n < 2:
		return dark()
	case n < 4:
		return clears()
	case n < 6:
		return use([]string{"a", "b-1", "c_"}[g.rnd.IntN(g.tools)])
	case n < 8:
		g.at = point(far(), far())
		return move(g.at.X, g.at.Y)
	case n < 11:
		if g.rnd.IntN(3) > 0 {
			g.at = point(far(), far())
		}
		return flash(g.at.X, g.at.Y)
	case n < 15:
		switch g.rnd.IntN(5) {
		case 0, 1:
			g.at.X = far()
		case 2, 3:
			g.at.Y = far()
		}
		return line(g.at.X, g.at.Y)
	case n < 18 || within == 2:
		return api.PlotStep{Kind: api.StepArea, Points: randomRow(g.rnd)}
	}
	nx, ny := 1+g.rnd.IntN(3), 1+g.rnd.IntN(2)
	return repeat(nx, ny, far(), far(), g.steps(1+g.rnd.IntN(3), within+1)...)
}

// randomRow is a closed row of points that can cross itself, and go back on its way.
func randomRow(rnd *rand.Rand) []api.Point {
	for {
		x, y := rnd.IntN(7)-3, rnd.IntN(7)-3
		row := points(x, y)
		for range 1 + rnd.IntN(3) {
			x2, y2 := rnd.IntN(7)-3, rnd.IntN(7)-3
			row = append(row, point(x2, y), point(x2, y2))
			x, y = x2, y2
		}
		row = append(row, point(row[0].X, y))
		if checkRow(row) == api.OK {
			return row
		}
	}
}
