package plot

import (
	"math/rand/v2"
	"slices"
	"strings"
	"testing"

	"etchhouse/api"
)

// P5: steps that do nothing.
func TestShort(t *testing.T) {
	const tools = "unit 1; tool t 0 0 1 1; tool u 0 0 2 2"
	const row = "repeat 2 1 5 0; line 0 0; done"
	const block = "area 0 0 1 0 1 1 0 1"
	for _, c := range []struct{ what, plot, want string }{
		{"nothing", "", ""},
		{"all of it", "dark; clear; use t; move 1 1; use u; move 2 2", ""},
		{"what is needed", "use t; move 0 0; line 1 0; clear; flash 1 0; use u; flash 1 0; dark; " + block, "use t; move 0 0; line 1 0; clear; flash 1 0; use u; flash 1 0; dark; " + block},

		{"dark is so at first", "dark; use t; flash 0 0", "use t; flash 0 0"},
		{"dark is so already", "use t; clear; flash 0 0; dark; flash 1 0; dark; flash 2 0", "use t; clear; flash 0 0; dark; flash 1 0; flash 2 0"},
		{"clear is so already", "clear; " + block + "; clear; " + block, "clear; " + block + "; " + block},
		{"another one follows", "clear; use t; dark; clear; move 1 1; flash 0 0", "use t; clear; flash 0 0"},
		{"another one follows that says the same", "clear; use t; clear; flash 0 0", "use t; clear; flash 0 0"},
		{"another one follows that takes it back", "clear; use t; dark; flash 0 0", "use t; flash 0 0"},
		{"the end follows", "use t; flash 0 0; clear; move 1 1", "use t; flash 0 0"},
		{"an area is drawn between", "clear; " + block + "; dark; " + block, "clear; " + block + "; dark; " + block},
		{"a repeat is drawn between", "clear; " + row + "; dark; " + row, "clear; " + row + "; dark; " + row},
		{"behind a repeat dark is not known", row + "; dark; " + block, row + "; dark; " + block},
		{"behind a repeat clear is not known", "clear; " + row + "; clear; " + block, "clear; " + row + "; clear; " + block},
		{"behind a repeat, once more", row + "; dark; " + block + "; dark; " + block, row + "; dark; " + block + "; " + block},

		{"the tool is used already", "use t; flash 0 0; use t; flash 1 0", "use t; flash 0 0; flash 1 0"},
		{"another tool follows", "use t; move 1 1; use u; flash 0 0", "use u; flash 0 0"},
		{"another tool follows behind an area", "use t; " + block + "; use u; flash 0 0", block + "; use u; flash 0 0"},
		{"the same tool follows behind an area", "use t; " + block + "; use t; flash 0 0", block + "; use t; flash 0 0"},
		{"the tool at the end", "use t; flash 0 0; use u; " + block, "use t; flash 0 0; " + block},
		{"another tool, and back", "use t; flash 0 0; use u; use t; flash 1 0", "use t; flash 0 0; flash 1 0"},
		{"a line between", "use t; move 0 0; line 1 0; use u; line 1 1", "use t; move 0 0; line 1 0; use u; line 1 1"},
		{"a repeat may use the tool", "use t; repeat 1 1 0 0; dark; done; use u; flash 0 0", "use t; repeat 1 1 0 0; dark; done; use u; flash 0 0"},
		{"behind a repeat the tool is not known", "use t; " + row + "; use t; flash 0 0", "use t; " + row + "; use t; flash 0 0"},

		{"a place follows", "use t; move 1 1; move 2 2; line 3 2", "use t; move 2 2; line 3 2"},
		{"a flash follows", "use t; move 1 1; clear; flash 2 2; line 3 2", "use t; clear; flash 2 2; line 3 2"},
		{"a line follows", "use t; move 1 1; clear; " + block + "; line 1 2", "use t; move 1 1; clear; " + block + "; line 1 2"},
		{"a place at the end", "use t; flash 0 0; move 1 1; " + block, "use t; flash 0 0; " + block},
		{"a move to the place where it is", "use t; flash 0 0; move 0 0; line 1 0", "use t; flash 0 0; move 0 0; line 1 0"},
		{"a repeat may draw a line", "use t; move 1 1; repeat 1 1 0 0; dark; done", "use t; move 1 1; repeat 1 1 0 0; dark; done"},
		{"a move behind a repeat", row + "; move 1 1; move 2 2", row},

		{"a line of no way behind a flash", "use t; flash 3 3; line 3 3; line 4 3", "use t; flash 3 3; line 4 3"},
		{"a line of no way behind a line", "use t; flash 3 3; line 5 3; line 5 3; line 5 3", "use t; flash 3 3; line 5 3"},
		{"a line of no way behind a move", "use t; move 3 3; line 3 3", "use t; move 3 3; line 3 3"},
		{"a line of no way with another tool", "use t; flash 3 3; use u; line 3 3", "use t; flash 3 3; use u; line 3 3"},
		{"a line of no way that is clear", "use t; flash 3 3; clear; line 3 3", "use t; flash 3 3; clear; line 3 3"},
		{"a line of no way behind an area", "use t; flash 3 3; " + block + "; line 3 3", "use t; flash 3 3; " + block + "; line 3 3"},
		{"a line of no way behind a repeat", "use t; flash 3 3; " + row + "; line 3 3", "use t; flash 3 3; " + row + "; line 3 3"},
		{"a line of some way to the same place", "use t; flash 3 3; move 1 3; line 3 3", "use t; flash 3 3; move 1 3; line 3 3"},
		{"a line of no way elsewhere", "use t; flash 3 3; move 4 4; line 4 4", "use t; flash 3 3; move 4 4; line 4 4"},
		{"a line of no way, moved there and back", "use t; flash 3 3; move 4 4; move 3 3; line 3 3", "use t; flash 3 3"},
		{"a line of no way, the tool changed and back", "use t; flash 3 3; use u; dark; use t; line 3 3; flash 5 5", "use t; flash 3 3; flash 5 5"},
		{"a line of no way, clear and back", "use t; flash 3 3; clear; dark; line 3 3; flash 5 5", "use t; flash 3 3; flash 5 5"},
		{"a line of no way, with a tool from a repeat", row + "; flash 3 3; line 3 3", row + "; flash 3 3"},
		{"a line of no way, dark for the first time behind a repeat", "use t; " + row + "; flash 3 3; dark; line 3 3", "use t; " + row + "; flash 3 3; dark; line 3 3"},
		{"one behind the other", "use t; flash 3 3; clear; line 3 3; clear; line 3 3; dark; dark", "use t; flash 3 3; clear; line 3 3"},
		{"what a line of no way has kept", "use t; flash 1 1; move 1 1; line 1 1; move 2 2; flash 5 5", "use t; flash 1 1; flash 5 5"},
		{"a flash at the same place stays", "use t; flash 1 1; flash 1 1", "use t; flash 1 1; flash 1 1"},
		{"a repeat stays as it is", "repeat 1 1 0 0; dark; dark; use t; use u; move 1 1; move 2 2; done", "repeat 1 1 0 0; dark; dark; use t; use u; move 1 1; move 2 2; done"},
	} {
		steps := func(s string) string {
			return strings.TrimSuffix(tools+"; "+s, "; ")
		}
		p, f := Short(plotOf(t, steps(c.plot)))
		wantFault(t, c.what, f, api.OK)
		want(t, c.what, p, plotOf(t, steps(c.want)))
	}
}

// modelShort takes away the first step that does nothing, again and again.
func modelShort(steps []api.PlotStep) []api.PlotStep {
	for i := range steps {
		if modelIdle(steps, i) {
			return modelShort(slices.Concat(steps[:i], steps[i+1:]))
		}
	}
	return steps
}

// lastOf returns the last step of some kinds before one; the zero one if there is none.
func lastOf(steps []api.PlotStep, before int, kinds ...int) (api.PlotStep, int) {
	for i := before - 1; i >= 0; i-- {
		if slices.Contains(kinds, steps[i].Kind) {
			return steps[i], i
		}
	}
	return api.PlotStep{}, -1
}

// nextOf returns the kind of the first step of some kinds behind one; 0 if there is none.
func nextOf(steps []api.PlotStep, behind int, kinds ...int) int {
	for _, s := range steps[behind+1:] {
		if slices.Contains(kinds, s.Kind) {
			return s.Kind
		}
	}
	return 0
}

func modelIdle(steps []api.PlotStep, i int) bool {
	s := steps[i]
	darkAt := func(i int) int {
		last, at := lastOf(steps, i, api.StepDark, api.StepClear, api.StepRepeat)
		if at < 0 {
			return api.StepDark
		}
		return last.Kind
	}
	toolAt := func(i int) string {
		last, _ := lastOf(steps, i, api.StepUse, api.StepRepeat)
		return last.Name
	}
	switch s.Kind {
	case api.StepDark, api.StepClear:
		next := nextOf(steps, i, 1, 2, 5, 6, 7, 8)
		return next == 0 || next == 1 || next == 2 || darkAt(i) == s.Kind
	case api.StepUse:
		next := nextOf(steps, i, 3, 5, 6, 8)
		return next == 0 || next == 3 || toolAt(i) == s.Name
	case api.StepMove:
		next := nextOf(steps, i, 4, 5, 6, 8)
		return next == 0 || next == 4 || next == 5
	case api.StepLine:
		place, _ := lastOf(steps, i, 4, 5, 6, 8)
		drawn, k := lastOf(steps, i, 5, 6, 7, 8)
		if place.Kind == 0 || place.Kind == 8 || place.At != s.At || drawn.Kind != 5 && drawn.Kind != 6 {
			return false
		}
		return drawn.At == s.At && toolAt(k) == toolAt(i) && darkAt(k) == darkAt(i)
	}
	return false
}

// idleSteps are steps of which many do nothing.
func idleSteps(rnd *rand.Rand) []api.PlotStep {
	var out []api.PlotStep
	at := []api.Point{point(0, 0), point(2, 0), point(0, 2)}
	for range rnd.IntN(16) {
		p := at[rnd.IntN(3)*rnd.IntN(2)]
		switch rnd.IntN(16) {
		case 0, 1:
			out = append(out, dark())
		case 2, 3:
			out = append(out, clears())
		case 4, 5, 6:
			out = append(out, use([]string{"a", "b-1"}[rnd.IntN(2)]))
		case 7, 8, 9:
			out = append(out, move(p.X, p.Y))
		case 10, 11:
			out = append(out, flash(p.X, p.Y))
		case 12, 13, 14:
			out = append(out, line(p.X, p.Y))
		case 15:
			out = append(out, block(0, 0, 1, 1))
		}
	}
	if rnd.IntN(3) == 0 {
		i, k := rnd.IntN(len(out)+1), rnd.IntN(len(out)+1)
		inner := append(slices.Clone(out[:k]), dark())
		out = slices.Insert(out, i, repeat(1, 2, 2, 0, inner...))
	}
	return out
}

// P5: random plots are made short by one step at a time, and their images stay.
func TestRandomShort(t *testing.T) {
	shorter, images := 0, 0
	tried(t, 20000, func(rnd *rand.Rand) {
		p := api.Plot{Unit: 1, Tools: []api.PlotTool{tool("a", rect(0, 0, 2, 1)), tool("b-1", rect(0, -1, 1, 1))}}
		if rnd.IntN(4) > 0 {
			p.Steps = append(p.Steps, use("a"), move(0, 0))
		}
		p.Steps = append(p.Steps, idleSteps(rnd)...)
		q, f := Short(p)
		wantFault(t, textOf(p), f, api.OK)
		want(t, textOf(p), textOf(q), textOf(api.Plot{Unit: 1, Tools: p.Tools, Steps: modelShort(p.Steps)}))
		if len(q.Steps) < len(p.Steps) {
			shorter++
		}
		image, f := Image(p)
		if f != api.OK {
			return
		}
		images++
		wantImage(t, "Short of "+textOf(p), q, image)
	})
	if shorter < 10000 || images < 3000 {
		t.Errorf("%d are shorter, %d have images", shorter, images)
	}
	tried(t, 1000, func(rnd *rand.Rand) {
		p := randomPlot(rnd)
		q, f := Short(p)
		wantFault(t, textOf(p), f, api.OK)
		if image, f := Image(p); f == api.OK {
			wantImage(t, "Short of "+textOf(p), q, image)
		}
	})
}

// P5: plots at the bound are made short without looking at everything again for each step.
func TestLongShort(t *testing.T) {
	for what, one := range map[string][]api.PlotStep{
		"nothing is needed":   {dark(), clears(), use("t"), move(1, 1)},
		"lines of no way":     {move(1, 1), line(1, 1)},
		"all but a few":       {use("t"), clears(), flash(1, 1), clears(), use("t"), dark()},
		"areas behind a move": {block(0, 0, 1, 1)},
	} {
		l := append([]api.PlotStep{use("t"), move(1, 1), flash(1, 1), move(2, 2)}, slices.Repeat(one, (api.MaxSteps-4)/len(one))...)
		p, f := Short(onlySteps(l...))
		wantFault(t, what, f, api.OK)
		for i := range p.Steps {
			if modelIdle(p.Steps, i) {
				t.Fatalf("%s: step %d does nothing", what, i)
			}
		}
	}
}
