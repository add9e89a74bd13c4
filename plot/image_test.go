package plot

import (
	"fmt"
	"math/rand/v2"
	"slices"
	"testing"

	"etchhouse/api"
	"etchhouse/shape"
)

// P2: what steps draw.
func TestImage(t *testing.T) {
	const squares = "unit 1; tool t 0 0 1 1; tool u -1 -2 2 1; use t; "
	for _, c := range []struct {
		what, plot string
		want       []api.Rect
	}{
		{"the example", "unit 10; tool t 0 0 1 2; use t; flash 0 0; line 3 0", []api.Rect{rect(0, 0, 40, 20)}},
		{"the example cleared", "unit 10; tool t 0 0 1 2; use t; flash 0 0; line 3 0; clear; flash 1 0", []api.Rect{rect(0, 0, 10, 20), rect(20, 0, 40, 20)}},
		{"nothing", "unit 1000", nil},
		{"no drawing", squares + "clear; move 3 4; use u; dark", nil},
		{"a tool around its place", squares + "use u; flash 10 10", []api.Rect{rect(9, 8, 12, 11)}},
		{"a tool whose rectangles lie over one another", "unit 2; tool t 0 0 2 1 1 0 3 1 0 0 1 3; use t; flash 1 0", []api.Rect{rect(2, 0, 8, 2), rect(2, 2, 4, 6)}},
		{"a line to the left", squares + "move 5 5; line -2 5", []api.Rect{rect(-2, 5, 6, 6)}},
		{"a line down", squares + "use u; move 5 5; line 5 0", []api.Rect{rect(4, -2, 7, 6)}},
		{"a line up, of units", "unit 3; tool t 0 0 1 1; use t; move 1 1; line 1 3", []api.Rect{rect(3, 3, 6, 12)}},
		{"a line between the grid of its unit", "unit 10; tool t 0 0 1 1 2 0 3 1; use t; move 0 0; line 1 0", []api.Rect{rect(0, 0, 40, 10)}},
		{"a line of no way", squares + "move 5 5; line 5 5", []api.Rect{rect(5, 5, 6, 6)}},
		{"lines one behind the other", squares + "move 0 0; line 3 0; line 3 2", []api.Rect{rect(0, 0, 4, 1), rect(3, 1, 4, 3)}},
		{"a line from a flash", squares + "flash 0 0; use u; line 3 0", []api.Rect{rect(-1, -2, 5, 1)}},
		{"a line of a tool that is changed on the way", squares + "move 0 0; use u; line 3 0", []api.Rect{rect(-1, -2, 5, 1)}},
		{"an area", squares + "area 0 0 0 2 2 2 2 0", []api.Rect{rect(0, 0, 2, 2)}},
		{"an area that crosses itself", squares + "area 0 0 3 0 3 3 1 3 1 1 4 1 4 2 0 2", []api.Rect{rect(0, 0, 3, 1), rect(0, 1, 1, 2), rect(3, 1, 4, 2), rect(1, 2, 3, 3)}},
		{"an area around which the row goes twice", squares + "area 0 0 2 0 2 2 0 2 0 0 2 0 2 2 0 2", nil},
		{"an area of no squares", squares + "area 0 0 2 0 0 0 5 0", nil},
		{"an area without a tool or a place", "unit 7; area 0 0 1 0 1 1 0 1", []api.Rect{rect(0, 0, 7, 7)}},
		{"an area lets the place stay", squares + "move 0 0; area 5 5 6 5 6 6 5 6; line 2 0", []api.Rect{rect(0, 0, 3, 1), rect(5, 5, 6, 6)}},
		{"clear behind dark", squares + "area 0 0 3 0 3 3 0 3; clear; flash 1 1", []api.Rect{rect(0, 0, 3, 1), rect(0, 1, 1, 2), rect(2, 1, 3, 2), rect(0, 2, 3, 3)}},
		{"dark behind clear behind dark", squares + "area 0 0 3 0 3 3 0 3; clear; flash 1 1; dark; flash 1 1", []api.Rect{rect(0, 0, 3, 3)}},
		{"clear before dark", squares + "clear; flash 0 0; dark; flash 5 0", []api.Rect{rect(5, 0, 6, 1)}},
		{"clear lines and areas", squares + "area 0 0 9 0 9 4 0 4; clear; move 1 1; line 4 1; area 6 0 7 0 7 9 6 9", []api.Rect{rect(0, 0, 6, 1), rect(7, 0, 9, 1), rect(0, 1, 1, 2), rect(5, 1, 6, 2), rect(7, 1, 9, 2), rect(0, 2, 6, 4), rect(7, 2, 9, 4)}},
	} {
		r, f := Image(plotOf(t, c.plot))
		wantFault(t, c.what, f, api.OK)
		want(t, c.what, r, c.want)
	}
}

// P2: repeats.
func TestRepeats(t *testing.T) {
	const squares = "unit 2; tool t 0 0 1 1; tool u 0 0 1 2; use t; "
	for _, c := range []struct {
		what, plot string
		want       []api.Rect
	}{
		{"a row", squares + "repeat 3 1 2 5; flash 0 0; done", []api.Rect{rect(0, 0, 2, 2), rect(4, 0, 6, 2), rect(8, 0, 10, 2)}},
		{"a column", squares + "repeat 1 3 5 2; flash 0 0; done", []api.Rect{rect(0, 0, 2, 2), rect(0, 4, 2, 6), rect(0, 8, 2, 10)}},
		{"to the left and below", squares + "repeat 2 2 -2 -2; flash 0 0; done", []api.Rect{rect(-4, -4, -2, -2), rect(0, -4, 2, -2), rect(-4, 0, -2, 2), rect(0, 0, 2, 2)}},
		{"no distance", squares + "repeat 100 20 0 0; flash 0 0; done", nil},
		{"repeats within repeats", squares + "repeat 2 1 10 0; repeat 2 1 3 0; flash 0 0; done; done", []api.Rect{rect(0, 0, 2, 2), rect(6, 0, 8, 2), rect(20, 0, 22, 2), rect(26, 0, 28, 2)}},
		{"areas are moved", squares + "repeat 2 1 3 0; area 0 0 1 0 1 1 0 1; done", []api.Rect{rect(0, 0, 2, 2), rect(6, 0, 8, 2)}},
		{"a line begins where the machine stands", squares + "move 0 0; repeat 3 1 2 0; line 0 0; done", []api.Rect{rect(0, 0, 10, 2)}},
		{"a line from a place that is moved, too", squares + "repeat 2 1 4 0; move 0 0; line 0 1; done", []api.Rect{rect(0, 0, 2, 4), rect(8, 0, 10, 4)}},
		{"the tool goes on", squares + "repeat 2 1 4 0; flash 0 0; use u; done; flash 8 0", []api.Rect{rect(0, 0, 2, 2), rect(8, 0, 10, 2), rect(16, 0, 18, 2), rect(8, 2, 10, 4), rect(16, 2, 18, 4)}},
		{"the darkness goes on", squares + "area 0 0 9 0 9 1 0 1; repeat 2 1 2 0; flash 0 0; clear; done; flash 6 0", []api.Rect{rect(0, 0, 4, 2), rect(6, 0, 12, 2), rect(14, 0, 18, 2)}},
		{"rows before columns", squares + "repeat 2 2 1 1; clear; flash 1 -1; flash 0 1; dark; flash 0 0; done", []api.Rect{rect(0, 0, 2, 2), rect(0, 2, 4, 4)}},
		{"the place goes on", squares + "repeat 2 1 4 0; move 0 0; done; line 4 2", []api.Rect{rect(8, 0, 10, 6)}},
	} {
		if c.want == nil {
			c.want = []api.Rect{rect(0, 0, 2, 2)}
		}
		r, f := Image(plotOf(t, c.plot))
		wantFault(t, c.what, f, api.OK)
		want(t, c.what, r, c.want)
	}
}

// P2: faults of images, as they are met.
func TestFaultsOfImages(t *testing.T) {
	const edge = api.MaxAt
	const squares = "unit 1; tool a -1 0 0 1; tool b 0 -1 1 0; tool t 0 0 1 1; "
	for _, c := range []struct {
		what, plot string
		want       api.Fault
	}{
		{"a flash without a tool", "move 0 0; flash 0 0", api.ErrState},
		{"a line without a tool", "move 0 0; line 0 0", api.ErrState},
		{"a line without a place", "use t; line 0 0", api.ErrState},
		{"a line behind an area alone", "use t; area 0 0 1 0 1 1 0 1; line 0 0", api.ErrState},
		{"a line that is not along an axis", "use t; move 0 0; line 1 1", api.ErrForm},
		{"neither tool nor axis", "move 0 0; line 1 1", api.ErrState},
		{"neither place nor axis", "use t; line 1 1", api.ErrState},
		{"the first fault counts: a line", "use t; move 0 0; line 1 1; line 0 0; use a; flash -1000000 0", api.ErrForm},
		{"the first fault counts: a flash", "use a; flash -1000000 0; line 1 1", api.ErrRange},
		{"in a repeat, the second time", "use t; move 0 0; repeat 1 2 0 1; line 0 0; line 1 0; done", api.ErrForm},
		{"behind a repeat the place is moved", "use t; move 0 0; repeat 2 1 1 0; move 0 0; done; line 0 1", api.ErrForm},
		{"up to the border", "use t; flash 999999 999999; flash -1000000 -1000000; move 1000000 1000000", api.OK},
		{"over the border to the right", "use t; flash 1000000 0", api.ErrRange},
		{"over the border above", "use t; flash 0 1000000", api.ErrRange},
		{"over the border to the left", "use a; flash -1000000 0", api.ErrRange},
		{"over the border below", "use b; flash 0 -1000000", api.ErrRange},
		{"neither tool nor range", "flash 1000000 0", api.ErrState},
		{"a line that begins over the border", "use t; move 1000000 0; line 0 0", api.ErrRange},
		{"a line that ends over the border", "use t; move 0 0; line 1000000 0", api.ErrRange},
		{"a line below that ends over the border", "use b; move 0 5; line 0 -1000000", api.ErrRange},
		{"a line that begins over the border, not along an axis", "use t; move 1000000 0; line 0 1", api.ErrForm},
		{"a line along the border", "use t; move -1000000 999999; line 999999 999999", api.OK},
		{"an area up to the border", "area -1000000 -1000000 1000000 -1000000 1000000 1000000 -1000000 1000000", api.OK},
		{"a place that is moved to the border", "repeat 2 1 1 0; move 999999 0; done", api.OK},
		{"a place that is moved over the border", "repeat 2 1 1 0; move 1000000 0; done", api.ErrRange},
		{"a place that is moved below the border", "repeat 2 3 0 -500000; move 0 -1; done", api.ErrRange},
		{"a flash that is moved up to the border", "use t; repeat 2 1 1 0; flash 999998 0; done", api.OK},
		{"a flash that is moved over the border", "use t; repeat 2 1 1 0; flash 999999 0; done", api.ErrRange},
		{"a flash within, its place over the border", "use a; repeat 2 1 1 0; flash 1000000 0; done", api.ErrRange},
		{"a line within, its place over the border", "use a; move 999999 0; repeat 2 1 1 0; line 1000000 0; done", api.ErrRange},
		{"a line that comes over the border", "use t; move 0 0; repeat 1 2 0 500000; line 0 500000; done", api.ErrRange},
		{"an area that is moved up to the border", "repeat 1 2 0 1; area 0 999998 1 999998 1 999999 0 999999; done", api.OK},
		{"an area that is moved over the border", "repeat 1 2 0 1; area 0 999999 1 999999 1 1000000 0 1000000; done", api.ErrRange},
		{"far beyond", "repeat 100 1 1000000 0; repeat 1 1 0 0; move 0 0; done; done", api.ErrRange},
	} {
		r, f := Image(plotOf(t, squares+c.plot))
		wantFault(t, c.what, f, c.want)
		if c.want != api.OK {
			wantZero(t, c.what, r)
			_, _, f = Travel(plotOf(t, squares+c.plot))
			wantFault(t, "Travel of "+c.what, f, c.want)
			_, f = Needless(plotOf(t, squares+c.plot))
			wantFault(t, "Needless of "+c.what, f, c.want)
		}
	}
	if edge != 1000000 {
		t.Error("another border")
	}
	for what, f := range map[string]api.Fault{
		"unit 1000; tool t 0 0 1 1; use t; flash 999 -1000": api.OK,
		"unit 1000; tool t 0 0 1 1; use t; flash 1000 0":    api.ErrRange,
		"unit 1000; tool t 0 0 1 2; use t; flash 0 999":     api.ErrRange,
		"unit 1000; repeat 2 1 1 0; move 1000 0; done":      api.ErrRange,
	} {
		_, got := Image(plotOf(t, what))
		wantFault(t, what, got, f)
	}
}

// combOf is a row of points whose area has so many teeth, none as high as another one: more rectangles than a region can have.
func combOf(teeth int) []api.Point {
	var out []api.Point
	for i := range teeth {
		high := 2 + i
		out = append(out, points(2*i, 1, 2*i, high, 2*i+1, high, 2*i+1, 1)...)
	}
	return append(out, points(2*teeth, 1, 2*teeth, 0, -1, 0, -1, 1)...)
}

// latticeOf is bars that cross one another.
func latticeOf(bars int) []api.Rect {
	var out []api.Rect
	for i := range bars {
		out = append(out, rect(0, 2*i, 2*bars, 2*i+1), rect(2*i, 0, 2*i+1, 2*bars))
	}
	return out
}

// P2: images at the bound, and one rectangle more.
func TestLargeImages(t *testing.T) {
	with := func(steps ...api.PlotStep) api.Plot {
		return api.Plot{Unit: 1, Tools: []api.PlotTool{
			tool("column", column(0, api.MaxRects)...), tool("half", column(0, api.MaxRects/2)...), tool("lattice", latticeOf(api.MaxRects/2)...), tool("square", rect(0, 0, 1, 1)),
		}, Steps: steps}
	}
	comb := api.PlotStep{Kind: api.StepArea, Points: combOf(490)}
	row := repeat(100, 20, 2, 2, flash(0, 0))
	for _, c := range []struct {
		what  string
		steps []api.PlotStep
		fault api.Fault
		count int
	}{
		{"a tool at the bound", []api.PlotStep{use("column"), flash(0, 0)}, api.OK, api.MaxRects},
		{"one more", []api.PlotStep{use("column"), flash(0, 0), use("square"), flash(5, 5)}, api.ErrLarge, 0},
		{"one more that joins", []api.PlotStep{use("column"), flash(0, 0), use("square"), flash(0, 1)}, api.OK, api.MaxRects - 1},
		{"one taken away, one more", []api.PlotStep{use("column"), flash(0, 0), use("square"), clears(), flash(0, 0), dark(), flash(9, 9)}, api.OK, api.MaxRects},
		{"one more, one taken away", []api.PlotStep{use("column"), flash(0, 0), use("square"), flash(9, 9), clears(), flash(0, 0)}, api.ErrLarge, 0},
		{"two halves", []api.PlotStep{use("half"), flash(0, 0), flash(5, 0)}, api.OK, api.MaxRects},
		{"a line", []api.PlotStep{use("column"), flash(0, 0), line(7, 0)}, api.OK, api.MaxRects},
		{"a line that fills", []api.PlotStep{use("column"), flash(0, 0), line(0, 1)}, api.OK, 1},
		{"flashes", []api.PlotStep{use("square"), row}, api.OK, api.MaxRects},
		{"flashes, and one more", []api.PlotStep{use("square"), row, flash(-2, 0)}, api.ErrLarge, 0},
		{"cutting one in two", []api.PlotStep{use("square"), repeat(99, 20, 2, 2, flash(0, 0)), block(0, 100, 41, 101), clears(), repeat(20, 1, 2, 0, flash(1, 100))}, api.ErrLarge, 0},
		{"cutting one less", []api.PlotStep{use("square"), repeat(99, 20, 2, 2, flash(0, 0)), block(0, 100, 41, 101), clears(), repeat(19, 1, 2, 0, flash(1, 100))}, api.OK, api.MaxRects},
		{"a lattice", []api.PlotStep{use("lattice"), flash(0, 0)}, api.ErrLarge, 0},
		{"a lattice on what is dark", []api.PlotStep{block(0, 0, 2000, 2000), use("lattice"), flash(0, 0)}, api.OK, 1},
		{"a lattice taken from nothing", []api.PlotStep{use("lattice"), clears(), flash(0, 0)}, api.OK, 0},
		{"a lattice taken from what it covers", []api.PlotStep{block(0, 0, 1, 1999), block(0, 0, 1999, 1), use("lattice"), clears(), flash(0, 0)}, api.OK, 0},
		{"a lattice taken from a plate", []api.PlotStep{block(0, 0, 3000, 3000), use("lattice"), clears(), flash(0, 0)}, api.ErrLarge, 0},
		{"a lattice taken from a few squares", []api.PlotStep{block(1, 1, 8, 7), use("lattice"), clears(), flash(0, 0)}, api.OK, 12},
		{"a lattice on its way", []api.PlotStep{use("lattice"), move(0, 0), line(1, 0)}, api.OK, api.MaxRects},
		{"a comb", []api.PlotStep{comb}, api.ErrLarge, 0},
		{"a comb on what is dark", []api.PlotStep{block(-1, 0, 2000, 2000), comb}, api.OK, 1},
		{"a comb taken from nothing", []api.PlotStep{clears(), comb}, api.OK, 0},
	} {
		r, f := Image(with(c.steps...))
		wantFault(t, c.what, f, c.fault)
		want(t, c.what, len(r), c.count)
		if f == api.OK {
			wantFault(t, c.what, shape.CheckRegion(r), api.OK)
		}
	}
}

// P2: pictures of random plots are those that are drawn square by square, and faults are the same.
func TestRandomImages(t *testing.T) {
	seen := map[api.Fault]int{}
	tried(t, 4000, func(rnd *rand.Rand) {
		p := randomPlot(rnd)
		wantFault(t, textOf(p), CheckPlot(p), api.OK)
		m, fault := modelOf(p)
		seen[fault]++
		r, f := Image(p)
		wantFault(t, textOf(p), f, fault)
		off, on, f := Travel(p)
		wantFault(t, textOf(p), f, fault)
		if fault != api.OK {
			wantZero(t, textOf(p), r)
			want(t, textOf(p), []int{off, on}, []int{0, 0})
			return
		}
		wantSquares(t, textOf(p), r, m.squares)
		want(t, "Travel of "+textOf(p), []int{off, on}, []int{m.off, m.on})
	})
	if seen[api.OK] < 1500 || seen[api.ErrState] < 50 || seen[api.ErrForm] < 50 {
		t.Errorf("faults: %v", seen)
	}
}

// P2: many strokes behind one another are the same as shape would make of them.
func TestManyStrokes(t *testing.T) {
	tried(t, 20, func(rnd *rand.Rand) {
		var image []api.Rect
		p := onlySteps(use("t"))
		for range 150 {
			x, y := rnd.IntN(60), rnd.IntN(60)
			r := rect(x, y, x+1+rnd.IntN(20), y+1+rnd.IntN(20))
			keep, step := shape.Union, dark()
			if rnd.IntN(3) == 0 {
				keep, step = shape.Minus, clears()
			}
			p.Steps = append(p.Steps, step, block(r.X0, r.Y0, r.X1, r.Y1))
			image, _ = keep(image, []api.Rect{r})
			got, f := Image(p)
			wantFault(t, "fault", f, api.OK)
			want(t, "image", got, image)
		}
	})
}

// P5: how far the machine goes.
func TestTravel(t *testing.T) {
	const squares = "unit 10; tool t 0 0 1 1; use t; "
	for _, c := range []struct {
		plot    string
		off, on int
	}{
		{"unit 10", 0, 0},
		{squares + "move 5 5", 0, 0},
		{squares + "flash 5 5", 0, 0},
		{squares + "flash 5 5; move 3 6", 30, 0},
		{squares + "move 5 5; flash 5 4; flash -1 -1", 120, 0},
		{squares + "move 5 5; line 5 -5; line 5 -5; line 0 -5", 0, 150},
		{squares + "move 0 0; line 3 0; move 0 0; line 0 3; flash 0 5", 50, 60},
		{squares + "move 0 0; area 9 9 19 9 19 19 9 19; move 1 0", 10, 0},
		{squares + "repeat 2 3 10 100; move 1 1; line 4 1; done", 70 + 1000 + 130 + 70 + 1000 + 130 + 70, 180},
		{squares + "move 0 0; clear; line 9 0", 0, 90},
	} {
		off, on, f := Travel(plotOf(t, c.plot))
		wantFault(t, c.plot, f, api.OK)
		want(t, c.plot, []int{off, on}, []int{c.off, c.on})
	}
}

// P5: plots with the same image.
func TestSame(t *testing.T) {
	const square = "unit 1; area 0 0 2 0 2 2 0 2"
	for _, c := range []struct {
		a, b string
		want bool
	}{
		{square, square, true},
		{square, "unit 2; tool t 0 0 1 1; use t; flash 0 0", true},
		{square, "unit 1; tool t 0 0 1 1; use t; move 0 0; line 1 0; line 1 1; line 0 1", true},
		{square, "unit 1; area 0 0 2 0 2 3 0 3", false},
		{square, "unit 2; area 0 0 2 0 2 2 0 2", false},
		{square, "unit 1", false},
		{"unit 1", "unit 1000; clear; area 0 0 1 0 1 1 0 1", true},
	} {
		got, f := Same(plotOf(t, c.a), plotOf(t, c.b))
		wantFault(t, c.b, f, api.OK)
		want(t, c.b, got, c.want)
		got, f = Same(plotOf(t, c.b), plotOf(t, c.a))
		wantFault(t, c.b, f, api.OK)
		want(t, c.b, got, c.want)
	}
	right, wrong, worse := onlySteps(), onlySteps(flash(0, 0)), onlySteps(use("t"), move(0, 0), line(1, 1))
	for i, c := range []struct {
		a, b api.Plot
		want api.Fault
	}{
		{right, api.Plot{}, api.ErrRange},
		{api.Plot{}, right, api.ErrRange},
		{wrong, onlySteps(use("x")), api.ErrName},
		{onlySteps(use("x")), api.Plot{}, api.ErrName},
		{right, wrong, api.ErrState},
		{wrong, right, api.ErrState},
		{wrong, worse, api.ErrState},
		{worse, wrong, api.ErrForm},
	} {
		got, f := Same(c.a, c.b)
		wantFault(t, fmt.Sprint("faults ", i), f, c.want)
		want(t, fmt.Sprint("faults ", i), got, false)
	}
	tried(t, 300, func(rnd *rand.Rand) {
		a, b := randomPlot(rnd), randomPlot(rnd)
		if rnd.IntN(2) == 0 {
			b = cloned(a)
			b.Steps = slices.Delete(b.Steps, len(b.Steps)-1, len(b.Steps))
		}
		m, f := modelOf(a)
		n, g := modelOf(b)
		if f != api.OK || g != api.OK {
			return
		}
		got, f := Same(a, b)
		wantFault(t, textOf(a), f, api.OK)
		want(t, textOf(a)+" and "+textOf(b), got, sameSquares(m, n))
	})
}
