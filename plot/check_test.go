package plot

import (
	"fmt"
	"math"
	"slices"
	"strings"
	"testing"

	"etchhouse/api"
)

// P1: names of tools.
func TestNames(t *testing.T) {
	named := func(name string) api.Plot {
		return api.Plot{Unit: 1, Tools: []api.PlotTool{tool(name, rect(0, 0, 1, 1))}, Steps: []api.PlotStep{use(name)}}
	}
	const letters = "ABCDEFGHIJKLMNOPQRSTUVWXYZabcdefghijklmnopqrstuvwxyz"
	for b := range 256 {
		one := string([]byte{byte(b)})
		first, second := api.ErrName, api.ErrName
		if strings.Contains(letters, one) {
			first = api.OK
		}
		if strings.Contains(letters+"0123456789_-", one) {
			second = api.OK
		}
		wantFault(t, fmt.Sprintf("first byte %q", one), CheckPlot(named(one)), first)
		wantFault(t, fmt.Sprintf("second byte %q", one), CheckPlot(named("a"+one)), second)
	}
	wantFault(t, "empty", CheckPlot(named("")), api.ErrName)
	wantFault(t, "as long as can be", CheckPlot(named(strings.Repeat("x", api.MaxName))), api.OK)
	wantFault(t, "too long", CheckPlot(named(strings.Repeat("x", api.MaxName+1))), api.ErrName)
}

// manySteps makes a plot with a repeat that counts n steps, itself and those within it.
func manySteps(n int) []api.PlotStep {
	return []api.PlotStep{repeat(1, 1, 0, 0, slices.Repeat([]api.PlotStep{dark()}, n-1)...)}
}

func manyTools(n int) []api.PlotTool {
	var l []api.PlotTool
	for i := range n {
		l = append(l, tool(fmt.Sprintf("t%04d", i), rect(0, 0, 1, 1)))
	}
	return l
}

// staircase is a closed row of so many points, an even number from 4 on.
func staircase(many int) []api.Point {
	var l []api.Point
	for i := range many/2 - 1 {
		l = append(l, point(i, i), point(i+1, i))
	}
	last := many/2 - 1
	return append(l, point(last, last), point(0, last))
}

// nested is steps within so many repeats.
func nested(many int, steps ...api.PlotStep) []api.PlotStep {
	for range many {
		steps = []api.PlotStep{repeat(1, 1, 0, 0, steps...)}
	}
	return steps
}

// repeated is steps that count 2981, and so many behind them.
func repeated(more int) []api.PlotStep {
	inner := []api.PlotStep{repeat(100, 1, 0, 0, dark()), repeat(98, 2, 0, 0, dark())}
	return append([]api.PlotStep{repeat(10, 1, 0, 0, inner...)}, slices.Repeat([]api.PlotStep{dark()}, more)...)
}

// P1: plots at each bound, and one past it.
func TestBounds(t *testing.T) {
	const low, high = math.MinInt, math.MaxInt
	unit := func(n int) api.Plot { return api.Plot{Unit: n} }
	tools := func(unit int, l ...api.PlotTool) api.Plot { return api.Plot{Unit: unit, Tools: l} }
	at := func(unit int, steps ...api.PlotStep) api.Plot {
		p := onlySteps(steps...)
		p.Unit = unit
		return p
	}
	for _, c := range []struct {
		what string
		plot api.Plot
		want api.Fault
	}{
		{"unit 0", unit(0), api.ErrRange},
		{"unit -1", unit(-1), api.ErrRange},
		{"unit 1", unit(1), api.OK},
		{"greatest unit", unit(api.MaxUnit), api.OK},
		{"too great a unit", unit(api.MaxUnit + 1), api.ErrRange},
		{"as many tools as can be", tools(1, manyTools(api.MaxTools)...), api.OK},
		{"too many tools", tools(1, manyTools(api.MaxTools+1)...), api.ErrLarge},
		{"no rectangles", tools(1, tool("t")), api.ErrNone},
		{"as many rectangles as can be", tools(1, tool("t", column(0, api.MaxRects)...)), api.OK},
		{"too many rectangles", tools(1, tool("t", column(0, api.MaxRects+1)...)), api.ErrLarge},
		{"a rectangle without width", tools(1, tool("t", rect(1, 0, 1, 1))), api.ErrZero},
		{"a rectangle without height", tools(1, tool("t", rect(0, 2, 1, 1))), api.ErrZero},
		{"the greatest rectangle", tools(1, tool("t", rect(-api.MaxAt, -api.MaxAt, api.MaxAt, api.MaxAt))), api.OK},
		{"the greatest rectangle of units", tools(1000, tool("t", rect(-1000, -1000, 1000, 1000))), api.OK},
		{"a rectangle too far to the left", tools(1000, tool("t", rect(-1001, 0, 1000, 1000))), api.ErrRange},
		{"a rectangle too far below", tools(1000, tool("t", rect(0, -1001, 1000, 1000))), api.ErrRange},
		{"a rectangle too far to the right", tools(1000, tool("t", rect(0, 0, 1001, 1000))), api.ErrRange},
		{"a rectangle too far above", tools(1000, tool("t", rect(0, 0, 1000, 1001))), api.ErrRange},
		{"a rectangle of numbers whose products are too large", tools(1000, tool("t", rect(1<<62, 1<<61, low, high))), api.ErrRange},
		{"a rectangle out of range in units alone", tools(3, tool("t", rect(0, 0, 333334, 1))), api.ErrRange},
		{"tools with the same name", tools(1, tool("t", rect(0, 0, 1, 1)), tool("t", rect(0, 0, 1, 1))), api.ErrOrder},
		{"tools that are not in order", tools(1, tool("u", rect(0, 0, 1, 1)), tool("t", rect(0, 0, 1, 1))), api.ErrOrder},
		{"as many steps as can be", onlySteps(slices.Repeat([]api.PlotStep{dark()}, api.MaxSteps)...), api.OK},
		{"too many steps", onlySteps(slices.Repeat([]api.PlotStep{dark()}, api.MaxSteps+1)...), api.ErrLarge},
		{"as many steps in a repeat", onlySteps(manySteps(api.MaxSteps)...), api.OK},
		{"too many steps in a repeat", onlySteps(manySteps(api.MaxSteps + 1)...), api.ErrLarge},
		{"as many steps by repeats", onlySteps(repeat(100, 29, 0, 0, dark()), repeat(49, 2, 0, 0, dark())), api.OK},
		{"too many steps by repeats", onlySteps(repeat(100, 29, 0, 0, dark()), repeat(33, 3, 0, 0, dark())), api.ErrLarge},
		{"as many with repeats that are repeated", onlySteps(repeated(19)...), api.OK},
		{"too many with repeats that are repeated", onlySteps(repeated(20)...), api.ErrLarge},
		{"as many, a repeat at last", onlySteps(append(slices.Repeat([]api.PlotStep{dark()}, api.MaxSteps-2), repeat(1, 1, 0, 0, dark()))...), api.OK},
		{"too many, a repeat at last", onlySteps(append(slices.Repeat([]api.PlotStep{dark()}, api.MaxSteps-1), repeat(1, 1, 0, 0, dark()))...), api.ErrLarge},
		{"as many, a repeat of nothing at last", onlySteps(append(slices.Repeat([]api.PlotStep{dark()}, api.MaxSteps-1), repeat(100, 100, 0, 0))...), api.ErrNone},
		{"very many", onlySteps(repeat(100, 100, 0, 0, repeat(100, 100, 0, 0, repeat(100, 100, 0, 0, repeat(100, 100, 0, 0, repeat(100, 100, 0, 0, dark())))))), api.ErrLarge},
		{"so many that the product is no number", onlySteps(repeat(100, 100, 0, 0, repeat(100, 100, 0, 0, repeat(100, 100, 0, 0, repeat(100, 100, 0, 0, nested(3, repeat(100, 100, 0, 0, dark()))...))))), api.ErrLarge},
		{"a wrong NX counts as 1", onlySteps(repeat(101, 1, 0, 0, slices.Repeat([]api.PlotStep{dark()}, 2999)...)), api.ErrRange},
		{"a wrong NX counts as 1, one more", onlySteps(repeat(101, 1, 0, 0, slices.Repeat([]api.PlotStep{dark()}, 3000)...)), api.ErrLarge},
		{"a wrong NX, NY counts", onlySteps(repeat(0, 100, 0, 0, slices.Repeat([]api.PlotStep{dark()}, 30)...)), api.ErrLarge},
		{"a wrong NY, NX counts", onlySteps(repeat(100, -5, 0, 0, slices.Repeat([]api.PlotStep{dark()}, 30)...)), api.ErrLarge},
		{"a wrong NY counts as 1", onlySteps(repeat(100, high, 0, 0, slices.Repeat([]api.PlotStep{dark()}, 29)...)), api.ErrRange},
		{"no repeat, though it has steps", onlySteps(api.PlotStep{Kind: api.StepDark, NX: 100, NY: 100, Steps: slices.Repeat([]api.PlotStep{dark()}, 4000)}), api.ErrForm},
		{"as many repeats within one another", onlySteps(nested(api.MaxNesting, dark())...), api.OK},
		{"too many repeats within one another", onlySteps(nested(api.MaxNesting+1, dark())...), api.ErrLarge},
		{"very many repeats within one another", onlySteps(nested(60000, dark())...), api.ErrLarge},
		{"NX 100, NY 1", onlySteps(repeat(100, 1, 0, 0, dark())), api.OK},
		{"NX 101", onlySteps(repeat(101, 1, 0, 0, dark())), api.ErrRange},
		{"NX 0", onlySteps(repeat(0, 1, 0, 0, dark())), api.ErrRange},
		{"NX 1, NY 100", onlySteps(repeat(1, 100, 0, 0, dark())), api.OK},
		{"NY 101", onlySteps(repeat(1, 101, 0, 0, dark())), api.ErrRange},
		{"NY -1", onlySteps(repeat(1, -1, 0, 0, dark())), api.ErrRange},
		{"a repeat of nothing", onlySteps(repeat(1, 1, 0, 0)), api.ErrNone},
		{"kind 0", onlySteps(api.PlotStep{}), api.ErrKind},
		{"kind 9", onlySteps(api.PlotStep{Kind: 9}), api.ErrKind},
		{"kind -1", onlySteps(api.PlotStep{Kind: -1}), api.ErrKind},
		{"a tool that there is not", onlySteps(use("u")), api.ErrName},
		{"no name", onlySteps(use("")), api.ErrName},
		{"as far as can be", at(1000, move(-1000, 1000), flash(1000, -1000), line(1000, 1000), repeat(1, 1, -1000, 1000, dark())), api.OK},
		{"a place too far to the right", at(1000, move(1001, 0)), api.ErrRange},
		{"a place too far above", at(1000, flash(0, 1001)), api.ErrRange},
		{"a place too far to the left", at(1000, line(-1001, 0)), api.ErrRange},
		{"a place too far below", at(1, line(0, -api.MaxAt-1)), api.ErrRange},
		{"a distance too far", at(1000, repeat(1, 1, 0, -1001, dark())), api.ErrRange},
		{"a place whose product is too large", at(1000, move(1<<62, 0)), api.ErrRange},
		{"a place that is low", at(1000, move(0, low)), api.ErrRange},
		{"a place within a repeat that is moved out of range is a matter of images", at(1, repeat(2, 1, api.MaxAt, 0, move(api.MaxAt, 0))), api.OK},
		{"an area as far as can be", at(1000, block(-1000, -1000, 1000, 1000)), api.OK},
		{"an area too far", at(1000, block(-1000, -1000, 1001, 1000)), api.ErrRange},
		{"an area too far above", at(1, block(0, 0, 1, api.MaxAt+1)), api.ErrRange},
		{"an area with as many points", onlySteps(api.PlotStep{Kind: api.StepArea, Points: staircase(api.MaxCorner)}), api.OK},
		{"an area with too many points", onlySteps(api.PlotStep{Kind: api.StepArea, Points: staircase(api.MaxCorner + 2)}), api.ErrLarge},
		{"an area without points", onlySteps(area()), api.ErrForm},
		{"an area of two points", onlySteps(area(0, 0, 1, 0)), api.ErrForm},
		{"an area of three points", onlySteps(area(0, 0, 1, 0, 1, 1)), api.ErrForm},
		{"an area of four points on a line", onlySteps(area(0, 0, 1, 0, 2, 0, 3, 0)), api.OK},
		{"an area with a side across", onlySteps(area(0, 0, 2, 0, 1, 1, 0, 1)), api.ErrForm},
		{"an area whose last side is across", onlySteps(area(0, 0, 2, 0, 2, 1, 1, 1)), api.ErrForm},
		{"an area with a side of no length", onlySteps(area(0, 0, 2, 0, 2, 0, 2, 1, 0, 1)), api.ErrForm},
		{"an area that is closed by a point", onlySteps(area(0, 0, 2, 0, 2, 1, 0, 1, 0, 0)), api.ErrForm},
		{"far away and no row", onlySteps(area(0, 0, low, high)), api.ErrRange},
		{"nothing", api.Plot{Unit: 1, Tools: []api.PlotTool{}, Steps: []api.PlotStep{}}, api.OK},
		{"empty lists are zero", onlySteps(api.PlotStep{Kind: api.StepDark, Points: []api.Point{}, Steps: []api.PlotStep{}}), api.OK},
	} {
		wantFault(t, c.what, CheckPlot(c.plot), c.want)
	}
}

// P1: fields that a kind does not have.
func TestFields(t *testing.T) {
	right := []api.PlotStep{
		dark(), clears(), use("t"), move(1, 0), flash(0, 1), line(1, 1), block(0, 0, 1, 1), repeat(1, 1, 1, 1, dark()),
	}
	fields := map[string]func(*api.PlotStep){
		"Name":   func(s *api.PlotStep) { s.Name = "t" },
		"X":      func(s *api.PlotStep) { s.At.X = 1 },
		"Y":      func(s *api.PlotStep) { s.At.Y = -1 },
		"Points": func(s *api.PlotStep) { s.Points = points(0, 0, 1, 0, 1, 1, 0, 1) },
		"Point": func(s *api.PlotStep) {
			if s.Kind != api.StepArea {
				s.Points = points(0, 0)
			}
		},
		"NX":    func(s *api.PlotStep) { s.NX = 1 },
		"NY":    func(s *api.PlotStep) { s.NY = 1 },
		"Steps": func(s *api.PlotStep) { s.Steps = []api.PlotStep{dark()} },
	}
	has := map[int]string{3: "Name", 4: "X Y", 5: "X Y", 6: "X Y", 7: "Points Point", 8: "X Y NX NY Steps"}
	for _, s := range right {
		wantFault(t, fmt.Sprint("kind ", s.Kind), CheckPlot(onlySteps(s)), api.OK)
		for field, set := range fields {
			other := s
			set(&other)
			expected := api.ErrForm
			if slices.Contains(strings.Fields(has[s.Kind]), field) {
				expected = api.OK
			}
			wantFault(t, fmt.Sprint("kind ", s.Kind, " with ", field), CheckPlot(onlySteps(other)), expected)
			wantFault(t, fmt.Sprint("kind ", s.Kind, " with ", field, ", within a repeat"), CheckPlot(onlySteps(repeat(1, 1, 0, 0, dark(), other))), expected)
		}
	}
}

// breakage makes something wrong in one way.
type breakage struct {
	what string
	do   func(*api.Plot)
	want api.Fault
}

// breakages of the plot below, in the order in which the chapter lists them.
func breakages() []breakage {
	step := func(i int, do func(*api.PlotStep)) func(*api.Plot) {
		return func(p *api.Plot) { do(&p.Steps[i]) }
	}
	inner := func(do func(*api.PlotStep)) func(*api.Plot) {
		return func(p *api.Plot) {
			if len(p.Steps[3].Steps) > 0 {
				do(&p.Steps[3].Steps[0])
			}
		}
	}
	oneTool := func(i int, do func(*api.PlotTool)) func(*api.Plot) {
		return func(p *api.Plot) { do(&p.Tools[i]) }
	}
	return []breakage{
		{"unit", func(p *api.Plot) { p.Unit = 0 }, api.ErrRange},
		{"many tools", func(p *api.Plot) { p.Tools = append(p.Tools, manyTools(api.MaxTools)...) }, api.ErrLarge},
		{"name of the first tool", oneTool(0, func(t *api.PlotTool) { t.Name = "7" }), api.ErrName},
		{"no rectangles", oneTool(0, func(t *api.PlotTool) { t.Rects = nil }), api.ErrNone},
		{"name of the second tool", oneTool(1, func(t *api.PlotTool) { t.Name = "" }), api.ErrName},
		{"many rectangles", oneTool(1, func(t *api.PlotTool) { t.Rects = append(t.Rects, column(0, api.MaxRects)...) }), api.ErrLarge},
		{"zero before range", oneTool(1, func(t *api.PlotTool) { t.Rects[0].X1 = 0 }), api.ErrZero},
		{"range", oneTool(1, func(t *api.PlotTool) { t.Rects[1].Y1 = api.MaxAt + 1 }), api.ErrRange},
		{"range, of which zero is no matter", oneTool(2, func(t *api.PlotTool) { t.Rects[0] = rect(0, 0, 0, -api.MaxAt-1) }), api.ErrRange},
		{"zero", oneTool(2, func(t *api.PlotTool) { t.Rects[1].Y0 = 1 }), api.ErrZero},
		{"order of tools", oneTool(2, func(t *api.PlotTool) { t.Name = "a" }), api.ErrOrder},
		{"many steps", func(p *api.Plot) { p.Steps = append(p.Steps, manySteps(api.MaxSteps)...) }, api.ErrLarge},
		{"kind", step(0, func(s *api.PlotStep) { s.Kind = 0 }), api.ErrKind},
		{"form", step(0, func(s *api.PlotStep) { s.NX = 1 }), api.ErrForm},
		{"name", step(0, func(s *api.PlotStep) { s.Name = "d" }), api.ErrName},
		{"form of a line", step(1, func(s *api.PlotStep) { s.Name = "b" }), api.ErrForm},
		{"range of a line", step(1, func(s *api.PlotStep) { s.At.Y = api.MaxAt + 1 }), api.ErrRange},
		{"form of an area", step(2, func(s *api.PlotStep) { s.At.X = 1 }), api.ErrForm},
		{"range of an area", step(2, func(s *api.PlotStep) { s.Points[0].Y = -api.MaxAt - 1 }), api.ErrRange},
		{"many points", step(2, func(s *api.PlotStep) { s.Points = append(s.Points, staircase(api.MaxCorner)...) }), api.ErrLarge},
		{"no row", step(2, func(s *api.PlotStep) { s.Points[1].Y = 1 }), api.ErrForm},
		{"form of a repeat", step(3, func(s *api.PlotStep) { s.Name = "b" }), api.ErrForm},
		{"range of a repeat", step(3, func(s *api.PlotStep) { s.At.X = api.MaxAt + 1 }), api.ErrRange},
		{"NX", step(3, func(s *api.PlotStep) { s.NX = 0 }), api.ErrRange},
		{"NY", step(3, func(s *api.PlotStep) { s.NY = 101 }), api.ErrRange},
		{"no steps in a repeat", step(3, func(s *api.PlotStep) { s.Steps = nil }), api.ErrNone},
		{"kind within a repeat", inner(func(s *api.PlotStep) { s.Kind = 9 }), api.ErrKind},
		{"name within a repeat", inner(func(s *api.PlotStep) { s.Name = "" }), api.ErrName},
		{"nesting: NX", step(4, func(s *api.PlotStep) { s.Steps[0].Steps[0].Steps[0].Steps[0].Steps[0].NX = 101 }), api.ErrRange},
		{"nesting: nothing", step(4, func(s *api.PlotStep) { s.Steps[0].Steps[0].Steps[0].Steps[0].Steps[0].Steps = nil }), api.ErrNone},
		{"behind a repeat", step(5, func(s *api.PlotStep) { s.Kind = 77 }), api.ErrKind},
	}
}

// breakable has a place for each breakage. Its fifth step has a repeat within too many others, if there is to be nesting.
func breakable(nesting bool) api.Plot {
	p := api.Plot{Unit: 1, Steps: []api.PlotStep{
		use("b"), line(0, 0), block(0, 0, 1, 1), repeat(1, 1, 0, 0, use("b"), dark()), dark(), dark(),
	}}
	for _, name := range []string{"a", "b", "c"} {
		p.Tools = append(p.Tools, tool(name, rect(0, 0, 1, 1), rect(0, 0, 1, 1)))
	}
	p.Steps[4] = nested(5, repeat(1, 1, 0, 0, dark()))[0]
	if !nesting {
		p.Steps[4].Steps[0].Steps[0].Steps[0].Steps[0].Steps = []api.PlotStep{dark(), dark()}
	}
	return p
}

// P1: the error that the chapter lists first is told.
func TestOrderOfErrors(t *testing.T) {
	wantFault(t, "nothing broken", CheckPlot(breakable(false)), api.OK)
	wantFault(t, "nesting", CheckPlot(breakable(true)), api.ErrLarge)
	l := breakages()
	for i, first := range l {
		for _, second := range l[i:] {
			nesting := strings.HasPrefix(first.what, "nesting") || strings.HasPrefix(second.what, "nesting")
			p, q := breakable(nesting), breakable(nesting)
			first.do(&p)
			second.do(&p)
			second.do(&q)
			first.do(&q)
			wantFault(t, first.what+", with "+second.what, CheckPlot(p), first.want)
			wantFault(t, second.what+", then "+first.what, CheckPlot(q), first.want)
		}
	}
	p := breakable(true)
	p.Steps[5].Kind = 77
	wantFault(t, "nesting before what is behind it", CheckPlot(p), api.ErrLarge)
	p.Steps[4].Steps[0].Steps[0].Steps[0].Steps[0].Steps[0].Steps[0].Kind = 77
	wantFault(t, "nesting before what is in it", CheckPlot(p), api.ErrLarge)
}

// P2 to P5: functions with plots return CheckPlot's error first.
func TestPlotsThatAreWrong(t *testing.T) {
	good := onlySteps()
	for _, b := range breakages() {
		p := breakable(false)
		if strings.HasPrefix(b.what, "nesting") {
			p = breakable(true)
		}
		b.do(&p)
		for name, f := range faultsOf(p, good) {
			wantFault(t, name+" of "+b.what, f, b.want)
		}
	}
	for name, f := range faultsOf(good, api.Plot{}) {
		expected := api.OK
		switch name {
		case "Joined", "Same":
			expected = api.ErrRange
		case "Scaled", "Moved", "TurnedPlot": // they have other arguments that are wrong
			continue
		}
		wantFault(t, name+" with a second plot that is wrong", f, expected)
	}
}

// faultsOf returns the faults of all functions with plots; their other arguments are wrong.
func faultsOf(p, q api.Plot) map[string]api.Fault {
	out := map[string]api.Fault{"CheckPlot": CheckPlot(p)}
	_, out["Text"] = Text(p)
	_, out["Image"] = Image(p)
	_, out["Flat"] = Flat(p)
	_, _, out["Scaled"] = Scaled(p, 0)
	_, out["Moved"] = Moved(p, point(math.MinInt, math.MaxInt))
	_, out["TurnedPlot"] = TurnedPlot(p, api.Turn{Quarters: -1})
	_, out["Short"] = Short(p)
	_, out["Joined"] = Joined(p, q)
	_, _, out["Travel"] = Travel(p)
	_, out["Needless"] = Needless(p)
	_, out["Same"] = Same(p, q)
	return out
}
