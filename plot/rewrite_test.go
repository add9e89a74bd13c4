package plot

import (
	"math/rand/v2"
	"slices"
	"strings"
	"testing"

	"etchhouse/api"
	"etchhouse/shape"
)

// P4: repeats written out.
func TestFlat(t *testing.T) {
	const tools = "unit 7; tool t 0 0 1 1; "
	for _, c := range []struct{ what, plot, want string }{
		{"nothing", "dark", "dark"},
		{"a repeat", "repeat 2 3 10 100; flash 1 2; done", "flash 1 2; flash 11 2; flash 1 102; flash 11 102; flash 1 202; flash 11 202"},
		{"all kinds", "repeat 2 1 10 0; dark; clear; use t; move 1 2; line 3 2; area 0 0 1 0 1 1 0 1; done; move 9 9", "dark; clear; use t; move 1 2; line 3 2; area 0 0 1 0 1 1 0 1; dark; clear; use t; move 11 2; line 13 2; area 10 0 11 0 11 1 10 1; move 9 9"},
		{"repeats within repeats", "repeat 1 2 5 100; move 0 0; repeat 2 1 -1 7; flash 0 0; done; move 1 0; done", "move 0 0; flash 0 0; flash -1 0; move 1 0; move 0 100; flash 0 100; flash -1 100; move 1 100"},
		{"three within one another", "repeat 2 1 1 0; repeat 1 2 0 10; repeat 2 1 100 0; flash 0 0; done; done; done", "flash 0 0; flash 100 0; flash 0 10; flash 100 10; flash 1 0; flash 101 0; flash 1 10; flash 101 10"},
	} {
		p, f := Flat(plotOf(t, tools+c.plot))
		wantFault(t, c.what, f, api.OK)
		want(t, c.what, p, plotOf(t, tools+c.want))
	}
	most := onlySteps(manySteps(api.MaxSteps)...)
	p, f := Flat(most)
	wantFault(t, "as many as can be", f, api.OK)
	want(t, "as many as can be", len(p.Steps), api.MaxSteps-1)
}

// P4: repeats written out up to MaxAt, and past it.
func TestRangeOfFlat(t *testing.T) {
	for _, c := range []struct {
		what, plot, want string // nothing is wanted if it is ErrRange
	}{
		{"a move up to the bound", "unit 2; repeat 3 1 5 0; move 499990 0; done", "unit 2; move 499990 0; move 499995 0; move 500000 0"},
		{"a move past it", "unit 2; repeat 3 1 5 0; move 499991 0; done", ""},
		{"a move down to the bound", "unit 2; repeat 3 1 -5 0; move -499990 0; done", "unit 2; move -499990 0; move -499995 0; move -500000 0"},
		{"a move past the lower one", "unit 2; repeat 3 1 -5 0; move -499991 0; done", ""},
		{"a move up to the bound of Y", "unit 2; repeat 1 2 0 5; move 0 499995; done", "unit 2; move 0 499995; move 0 500000"},
		{"a move past it", "unit 2; repeat 1 2 0 5; move 0 499996; done", ""},
		{"a flash up to the bound", "unit 1; repeat 1 2 0 7; flash 0 999993; done", "unit 1; flash 0 999993; flash 0 1000000"},
		{"a flash past it", "unit 1; repeat 1 2 0 7; flash 0 999994; done", ""},
		{"a line down to the bound", "unit 1; repeat 1 2 0 -7; line 0 -999993; done", "unit 1; line 0 -999993; line 0 -1000000"},
		{"a line past it", "unit 1; repeat 1 2 0 -7; line 0 -999994; done", ""},
		{"an area up to the bound", "unit 1; repeat 3 1 5 2; area 5 5 9 5 9 1000000 5 1000000; done", "unit 1; area 5 5 9 5 9 1000000 5 1000000; area 10 5 14 5 14 1000000 10 1000000; area 15 5 19 5 19 1000000 15 1000000"},
		{"an area past it", "unit 1; repeat 3 2 5 2; area 5 5 9 5 9 1000000 5 1000000; done", ""},
		{"a point of an area past it", "unit 1; repeat 2 1 1 0; area 0 0 1000000 0 1000000 1 0 1; done", ""},
		{"repeats that lead to the bound together", "unit 1; repeat 2 1 600000 0; repeat 2 1 400000 0; move 0 0; done; done", "unit 1; move 0 0; move 400000 0; move 600000 0; move 1000000 0"},
		{"repeats that lead past it together", "unit 1; repeat 2 1 600000 0; repeat 2 1 400001 0; move 0 0; done; done", ""},
		{"a repeat that comes back", "unit 1; repeat 2 1 -1000000 0; repeat 2 1 1000000 0; move 0 0; done; done", "unit 1; move 0 0; move 1000000 0; move -1000000 0; move 0 0"},
		{"a repeat that goes far without a place", "unit 1; repeat 100 1 1000000 0; dark; done; move 0 0", "unit 1; " + strings.Repeat("dark; ", 100) + "move 0 0"},
	} {
		p, f := Flat(plotOf(t, c.plot))
		if c.want == "" {
			wantFault(t, c.what, f, api.ErrRange)
			wantZero(t, c.what, p)
			continue
		}
		wantFault(t, c.what, f, api.OK)
		want(t, c.what, textOf(p), c.want)
	}
}

// P4: other units.
func TestScaled(t *testing.T) {
	const six = "unit 6; tool t 0 -10 15 5; move 10 5; flash -5 0; line 0 15; area 0 0 5 0 5 5 0 5; use t; repeat 7 11 10 -20; move 5 5; done"
	for _, c := range []struct {
		what, plot string
		unit       int
		want       string
	}{
		{"the same", six, 6, six},
		{"finer", six, 2, "unit 2; tool t 0 -30 45 15; move 30 15; flash -15 0; line 0 45; area 0 0 15 0 15 15 0 15; use t; repeat 7 11 30 -60; move 15 15; done"},
		{"coarser", six, 10, "unit 10; tool t 0 -6 9 3; move 6 3; flash -3 0; line 0 9; area 0 0 3 0 3 3 0 3; use t; repeat 7 11 6 -12; move 3 3; done"},
		{"too coarse", six, 12, ""},
		{"not whole", six, 7, ""},
		{"without numbers", "unit 1; dark", 1000, "unit 1000; dark"},
		{"a tool is not whole", "unit 1; tool t 0 0 2 3", 2, ""},
		{"a place is not whole", "unit 1; move 1 2", 2, ""},
		{"a flash is not whole", "unit 1; tool t 0 0 2 2; flash 2 -1", 2, ""},
		{"a line is not whole", "unit 1; line 2 3", 2, ""},
		{"an area is not whole", "unit 1; area 0 0 3 0 3 2 0 2", 2, ""},
		{"a distance is not whole", "unit 1; repeat 2 2 2 3; dark; done", 2, ""},
		{"numbers of times do not matter", "unit 1; repeat 3 3 2 2; dark; done", 2, "unit 2; repeat 3 3 1 1; dark; done"},
		{"within a repeat", "unit 1; repeat 2 2 2 2; repeat 1 1 0 0; move 1 0; done; done", 2, ""},
		{"as far as can be", "unit 1; move -1000000 1000000", 1000, "unit 1000; move -1000 1000"},
	} {
		p, ok, f := Scaled(plotOf(t, c.plot), c.unit)
		wantFault(t, c.what, f, api.OK)
		want(t, c.what, ok, c.want != "")
		if c.want == "" {
			wantZero(t, c.what, p)
			continue
		}
		want(t, c.what, p, plotOf(t, c.want))
	}
	for _, unit := range []int{-1, 0, api.MaxUnit + 1, -1 << 63, 1<<63 - 1} {
		p, ok, f := Scaled(plotOf(t, six), unit)
		wantFault(t, "unit", f, api.ErrRange)
		wantZero(t, "unit", p)
		want(t, "unit", ok, false)
	}
	atBounds := plotOf(t, "unit 10; tool t -100000 -100000 100000 100000; flash -100000 100000; area -100000 -100000 100000 -100000 100000 100000 -100000 100000; repeat 1 1 100000 -100000; line 100000 0; done")
	for _, unit := range []int{1, 2, 5, 10, 100, 1000} {
		p, ok, f := Scaled(atBounds, unit)
		wantFault(t, "at the bounds", f, api.OK)
		want(t, "at the bounds", ok, true)
		wantFault(t, "CheckPlot at the bounds", CheckPlot(p), api.OK)
	}
	_, ok, f := Scaled(plotOf(t, "unit 1000; move 1000 0"), api.MaxUnit)
	wantFault(t, "the greatest unit", f, api.OK)
	want(t, "the greatest unit", ok, true)
}

// P4: moved plots.
func TestMoved(t *testing.T) {
	const before = "unit 10; tool t 0 0 1 1; use t; dark; move 1 2; flash 3 4; line 3 6; area 0 0 1 0 1 1 0 1; clear; repeat 2 3 10 20; flash 5 5; repeat 1 2 3 4; line 1 5; done; done"
	const after = "unit 10; tool t 0 0 1 1; use t; dark; move 101 0; flash 103 2; line 103 4; area 100 -2 101 -2 101 -1 100 -1; clear; repeat 2 3 10 20; flash 105 3; repeat 1 2 3 4; line 101 3; done; done"
	p, f := Moved(plotOf(t, before), point(1000, -20))
	wantFault(t, "moved", f, api.OK)
	want(t, "moved", p, plotOf(t, after))
	for _, c := range []struct {
		what string
		by   api.Point
		want api.Fault
	}{
		{"not at all", point(0, 0), api.OK},
		{"X is no multiple", point(5, 10), api.ErrForm},
		{"Y is no multiple", point(-10, -1), api.ErrForm},
		{"X is too far, and no multiple", point(api.MaxAt+1, 0), api.ErrRange},
		{"X is too far", point(api.MaxAt+10, 0), api.ErrRange},
		{"X is too low", point(-api.MaxAt-10, 0), api.ErrRange},
		{"Y is too far", point(0, api.MaxAt+10), api.ErrRange},
		{"Y is too low, X is no multiple", point(1, -api.MaxAt-10), api.ErrRange},
		{"very far", point(-1<<63, 1<<63-1), api.ErrRange},
	} {
		p, f := Moved(plotOf(t, before), c.by)
		wantFault(t, c.what, f, c.want)
		if f != api.OK {
			wantZero(t, c.what, p)
		}
	}
}

// P4: plots that are moved up to MaxAt, and past it.
func TestRangeOfMoved(t *testing.T) {
	for _, c := range []struct {
		what, plot string
		by         api.Point
		want       string // nothing is wanted if it is ErrRange
	}{
		{"as far as can be", "unit 10; move 0 0", point(api.MaxAt, -api.MaxAt), "unit 10; move 100000 -100000"},
		{"a move to the bound", "unit 2; move 2 9", point(-1000000, 999982), "unit 2; move -499998 500000"},
		{"a move past it", "unit 2; move 2 9", point(-1000000, 999984), ""},
		{"a move far past it", "unit 2; move 2 9", point(-1000000, 1000000), ""},
		{"a move to the lower bound", "unit 2; move -2 9", point(-999996, 0), "unit 2; move -500000 9"},
		{"a move past the lower bound", "unit 2; move -2 9", point(-999998, 0), ""},
		{"a flash to the bound", "unit 1; flash 1 0", point(999999, 0), "unit 1; flash 1000000 0"},
		{"a flash past it", "unit 1; flash 1 0", point(1000000, 0), ""},
		{"a line to the lower bound", "unit 1; line 0 -1", point(0, -999999), "unit 1; line 0 -1000000"},
		{"a line past it", "unit 1; line 0 -1", point(0, -1000000), ""},
		{"an area to the bound", "unit 1; repeat 1 1 0 0; area 0 0 4 0 4 3 0 3; done", point(999996, 0), "unit 1; repeat 1 1 0 0; area 999996 0 1000000 0 1000000 3 999996 3; done"},
		{"an area past it", "unit 1; repeat 1 1 0 0; area 0 0 4 0 4 3 0 3; done", point(999997, 0), ""},
		{"only the first time of a repeat has bounds", "unit 1; repeat 2 1 9 0; move 0 0; done", point(1000000, 0), "unit 1; repeat 2 1 9 0; move 1000000 0; done"},
		{"distances and tools stay", "unit 1; tool t 999999 0 1000000 1; repeat 1 1 1000000 0; dark; done", point(1000000, 0), "unit 1; tool t 999999 0 1000000 1; repeat 1 1 1000000 0; dark; done"},
	} {
		p, f := Moved(plotOf(t, c.plot), c.by)
		if c.want == "" {
			wantFault(t, c.what, f, api.ErrRange)
			wantZero(t, c.what, p)
			continue
		}
		wantFault(t, c.what, f, api.OK)
		want(t, c.what, textOf(p), c.want)
	}
	p, f := Moved(plotOf(t, "unit 10; move 100000 0"), point(5, 0))
	wantFault(t, "no multiple, and out of range", f, api.ErrForm)
	wantZero(t, "no multiple, and out of range", p)
}

// shifted moves all places and points, also those within repeats.
func shifted(l []api.PlotStep, by api.Point) []api.PlotStep {
	out := clonedSteps(l)
	for i := range out {
		s := &out[i]
		switch s.Kind {
		case api.StepMove, api.StepFlash, api.StepLine:
			s.At = point(s.At.X+by.X, s.At.Y+by.Y)
		}
		for k, p := range s.Points {
			s.Points[k] = point(p.X+by.X, p.Y+by.Y)
		}
		s.Steps = shifted(s.Steps, by)
	}
	return out
}

// writtenOut does repeats, one time after the other.
func writtenOut(l []api.PlotStep) []api.PlotStep {
	var out []api.PlotStep
	for _, s := range l {
		if s.Kind != api.StepRepeat {
			out = append(out, s)
			continue
		}
		for j := range s.NY {
			for i := range s.NX {
				out = append(out, shifted(writtenOut(s.Steps), point(i*s.At.X, j*s.At.Y))...)
			}
		}
	}
	return out
}

// P4: what is written otherwise is the plot that it should be, or ErrRange if CheckPlot says this of it.
func TestRandomRanges(t *testing.T) {
	wanted := map[string]int{}
	hold := func(what string, p api.Plot, f api.Fault, unit int, tools []api.PlotTool, steps []api.PlotStep) {
		t.Helper()
		model := api.Plot{Unit: unit, Tools: tools, Steps: steps}
		expected := CheckPlot(model)
		wantFault(t, what, f, expected)
		if expected != api.OK {
			want(t, what, expected, api.ErrRange)
			model = api.Plot{}
		}
		want(t, what, p, model)
		wanted[what+map[bool]string{false: " out of range", true: ""}[expected == api.OK]]++
	}
	tried(t, 5000, func(rnd *rand.Rand) {
		p := randomPlot(rnd)
		far := func() int { return (rnd.IntN(3) - 1) * (api.MaxAt/p.Unit - rnd.IntN(12)) }
		p.Steps = shifted(p.Steps, point(far(), far()))
		if CheckPlot(p) != api.OK {
			return
		}
		q, f := Flat(p)
		hold("Flat", q, f, p.Unit, p.Tools, writtenOut(p.Steps))
		by := point(rnd.IntN(9)-4, rnd.IntN(9)-4)
		micrometres := point(by.X*p.Unit, by.Y*p.Unit)
		q, f = Moved(p, micrometres)
		hold("Moved", q, f, p.Unit, p.Tools, shifted(p.Steps, by))
		q, f = TurnedPlot(p, api.Turn{At: micrometres})
		hold("TurnedPlot", q, f, p.Unit, p.Tools, shifted(writtenOut(p.Steps), by))
		for unit := 1; unit < 5; unit++ {
			if q, ok, _ := Scaled(p, unit); ok {
				wantFault(t, "CheckPlot of Scaled", CheckPlot(q), api.OK)
			}
		}
	})
	for _, what := range []string{"Flat", "Moved", "TurnedPlot"} {
		if wanted[what] < 1000 || wanted[what+" out of range"] < 100 {
			t.Errorf("%s: %v", what, wanted)
		}
	}
}

// P4: turned plots.
func TestTurnedPlot(t *testing.T) {
	const before = "unit 10; tool a 0 0 3 1 5 5 6 7; tool t -1 0 0 1; use t; move 1 2; repeat 2 1 1 0; flash 3 4; done; line 4 6; clear; area 0 0 2 0 2 1 0 1"
	for _, c := range []struct {
		what string
		turn api.Turn
		want string
	}{
		{"not at all", api.Turn{}, "unit 10; tool a 0 0 3 1 5 5 6 7; tool t -1 0 0 1; use t; move 1 2; flash 3 4; flash 4 4; line 4 6; clear; area 0 0 2 0 2 1 0 1"},
		{"a quarter", api.Turn{Quarters: 1}, "unit 10; tool a -1 0 0 3 -7 5 -5 6; tool t -1 -1 0 0; use t; move -2 1; flash -4 3; flash -4 4; line -6 4; clear; area 0 0 0 2 -1 2 -1 0"},
		{"mirrored", api.Turn{Flip: true}, "unit 10; tool a -3 0 0 1 -6 5 -5 7; tool t 0 0 1 1; use t; move -1 2; flash -3 4; flash -4 4; line -4 6; clear; area 0 0 -2 0 -2 1 0 1"},
		{"mirrored, turned and moved", api.Turn{Flip: true, Quarters: 1, At: point(100, -20)}, "unit 10; tool a -1 -3 0 0 -7 -6 -5 -5; tool t -1 0 0 1; use t; move 8 -3; flash 6 -5; flash 6 -6; line 4 -6; clear; area 10 -2 10 -4 9 -4 9 -2"},
	} {
		p, f := TurnedPlot(plotOf(t, before), c.turn)
		wantFault(t, c.what, f, api.OK)
		want(t, c.what, p, plotOf(t, c.want))
	}
	far := onlySteps(repeat(2, 1, 10, 0, move(api.MaxAt, 0)))
	for _, c := range []struct {
		what string
		plot api.Plot
		turn api.Turn
		want api.Fault
	}{
		{"no quarters", plotOf(t, before), api.Turn{Quarters: 4, At: point(1, 0)}, api.ErrRange},
		{"quarters below 0", plotOf(t, before), api.Turn{Quarters: -1}, api.ErrRange},
		{"too far", plotOf(t, before), api.Turn{At: point(api.MaxAt+1, 0)}, api.ErrRange},
		{"as far as can be, and out of range", plotOf(t, before), api.Turn{At: point(api.MaxAt, 0)}, api.ErrRange},
		{"as far as can be", plotOf(t, "unit 10; move 0 0"), api.Turn{At: point(-api.MaxAt, api.MaxAt)}, api.OK},
		{"no multiple", plotOf(t, before), api.Turn{At: point(10, 5)}, api.ErrForm},
		{"no multiple, and out of range", plotOf(t, before), api.Turn{At: point(api.MaxAt-5, 0)}, api.ErrForm},
		{"a repeat out of range", far, api.Turn{}, api.ErrRange},
		{"a repeat that comes back into the range", far, api.Turn{At: point(-10, 0)}, api.OK},
		{"a repeat that comes back by a turn alone", far, api.Turn{Quarters: 2}, api.ErrRange},
	} {
		p, f := TurnedPlot(c.plot, c.turn)
		wantFault(t, c.what, f, c.want)
		if f != api.OK {
			wantZero(t, c.what, p)
		}
	}
}

// P5: one plot behind the other one.
func TestJoined(t *testing.T) {
	const a = "unit 6; tool t 0 0 1 1; tool u 0 0 2 2; use u; flash 1 0; clear; repeat 2 1 5 0; use t; flash 0 0; done"
	const b = "unit 4; tool b 0 0 1 1; tool t 0 0 3 3; use t; move 1 1; line 2 1; area 0 0 1 0 1 1 0 1"
	const both = "unit 2; tool a-t 0 0 3 3; tool a-u 0 0 6 6; tool b-b 0 0 2 2; tool b-t 0 0 6 6; use a-u; flash 3 0; clear; repeat 2 1 15 0; use a-t; flash 0 0; done; dark; use b-t; move 2 2; line 4 2; area 0 0 2 0 2 2 0 2"
	p, f := Joined(plotOf(t, a), plotOf(t, b))
	wantFault(t, "Joined", f, api.OK)
	want(t, "Joined", p, plotOf(t, both))
	p, f = Joined(plotOf(t, "unit 1000"), plotOf(t, "unit 750"))
	wantFault(t, "nothing", f, api.OK)
	want(t, "nothing", p, plotOf(t, "unit 250; dark"))

	long := func(bytes int) api.Plot {
		return api.Plot{Unit: 1, Tools: []api.PlotTool{tool(strings.Repeat("x", bytes), rect(0, 0, 1, 1))}}
	}
	tools := func(many int) api.Plot { return api.Plot{Unit: 1, Tools: manyTools(many)} }
	steps := func(many int) api.Plot { return onlySteps(slices.Repeat([]api.PlotStep{dark()}, many)...) }
	for _, c := range []struct {
		what string
		a, b api.Plot
		want api.Fault
	}{
		{"names as long as can be", long(api.MaxName - 2), long(api.MaxName - 2), api.OK},
		{"the first name is too long", long(api.MaxName - 1), long(1), api.ErrName},
		{"the second name is too long", long(1), long(api.MaxName), api.ErrName},
		{"as many tools as can be", tools(api.MaxTools / 2), tools(api.MaxTools / 2), api.OK},
		{"too many tools", tools(api.MaxTools / 2), tools(api.MaxTools/2 + 1), api.ErrLarge},
		{"as many steps as can be", steps(api.MaxSteps / 2), steps(api.MaxSteps/2 - 1), api.OK},
		{"too many steps", steps(api.MaxSteps / 2), steps(api.MaxSteps / 2), api.ErrLarge},
		{"the first is wrong", onlySteps(use("x")), api.Plot{}, api.ErrName},
		{"the second is wrong", onlySteps(), onlySteps(move(api.MaxAt+1, 0)), api.ErrRange},
	} {
		p, f := Joined(c.a, c.b)
		wantFault(t, c.what, f, c.want)
		if f != api.OK {
			wantZero(t, c.what, p)
		}
	}
}

// P4, P5: what follows of plots that are written otherwise.
func TestRandomRewriting(t *testing.T) {
	count := 0
	tried(t, 2500, func(rnd *rand.Rand) {
		p := randomPlot(rnd)
		image, f := Image(p)
		if f != api.OK {
			return
		}
		count++
		what := textOf(p)
		q, f := Flat(p)
		wantFault(t, what, f, api.OK)
		wantImage(t, "Flat of "+what, q, image)
		if slices.ContainsFunc(q.Steps, func(s api.PlotStep) bool { return s.Kind == api.StepRepeat }) {
			t.Errorf("Flat of %s: a repeat", what)
		}

		by := point(p.Unit*(rnd.IntN(9)-4), p.Unit*(rnd.IntN(9)-4))
		q, f = Moved(p, by)
		wantFault(t, what, f, api.OK)
		moved, _ := shape.TurnedRegion(image, api.Turn{At: by})
		wantImage(t, "Moved of "+what, q, moved)

		turn := api.Turn{Flip: rnd.IntN(2) == 0, Quarters: rnd.IntN(4), At: by}
		q, f = TurnedPlot(p, turn)
		wantFault(t, what, f, api.OK)
		turned, _ := shape.TurnedRegion(image, turn)
		wantImage(t, "TurnedPlot of "+what, q, turned)

		for unit := range 7 {
			q, ok, _ := Scaled(p, unit)
			if ok {
				wantImage(t, "Scaled of "+what, q, image)
				want(t, what, q.Unit, unit)
			}
			want(t, what, ok, unit > 0 && (p.Unit%unit == 0 || ok))
		}

		b := randomPlot(rnd)
		q, f = Joined(p, b)
		wantFault(t, what, f, api.OK)
		if _, f := modelOf(b); f != api.OK || b.Steps[0].Kind != api.StepUse || b.Steps[1].Kind != api.StepMove {
			return // it needs what is left over of p
		}
		m, _ := modelOf(p)
		m.plot, m.dark = b, true
		wantFault(t, what, m.steps(b.Steps, point(0, 0)), api.OK)
		r, f := Image(q)
		wantFault(t, what, f, api.OK)
		wantSquares(t, "Joined of "+what, r, m.squares)
	})
	if count < 1000 {
		t.Errorf("%d plots", count)
	}
}

func wantImage(t *testing.T, what string, p api.Plot, image []api.Rect) {
	t.Helper()
	got, f := Image(p)
	wantFault(t, what, f, api.OK)
	if !slices.Equal(got, image) {
		t.Errorf("%s: another image", what)
	}
}
