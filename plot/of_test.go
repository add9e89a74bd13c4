package plot

import (
	"math/rand/v2"
	"slices"
	"testing"

	"etchhouse/api"
	"etchhouse/shape"
)

func regionOf(t *testing.T, l ...api.Rect) []api.Rect {
	t.Helper()
	r, f := shape.Region(l)
	if f != api.OK {
		t.Fatalf("Region: fault %d", f)
	}
	return r
}

// without returns a region without some rectangles.
func without(t *testing.T, r []api.Rect, l ...api.Rect) []api.Rect {
	t.Helper()
	out, f := shape.Minus(r, regionOf(t, l...))
	if f != api.OK {
		t.Fatalf("Minus: fault %d", f)
	}
	return out
}

// P5: plots of regions.
func TestOf(t *testing.T) {
	plate := regionOf(t, rect(0, 0, 9, 9))
	for _, c := range []struct {
		what   string
		region []api.Rect
		want   string
	}{
		{"nothing", nil, "unit 1"},
		{"a square", regionOf(t, rect(-1, -1, 0, 0)), "unit 1; area -1 -1 0 -1 0 0 -1 0"},
		{"the example of chapter 1", regionOf(t, rect(0, 0, 2, 1), rect(0, 0, 1, 2)), "unit 1; area 0 0 2 0 2 1 1 1 1 2 0 2"},
		{"pieces: more squares first", regionOf(t, rect(0, 0, 1, 1), rect(5, 5, 7, 7), rect(9, 9, 12, 12)), "unit 1; area 9 9 12 9 12 12 9 12; area 5 5 7 5 7 7 5 7; area 0 0 1 0 1 1 0 1"},
		{"pieces of equally many squares", regionOf(t, rect(5, 0, 6, 4), rect(0, 0, 4, 1), rect(0, 5, 2, 7)), "unit 1; area 0 0 4 0 4 1 0 1; area 5 0 6 0 6 4 5 4; area 0 5 2 5 2 7 0 7"},
		{"a hole", without(t, plate, rect(2, 2, 5, 5)), "unit 1; area 0 0 9 0 9 9 0 9; clear; area 2 2 2 5 5 5 5 2"},
		{"holes", without(t, plate, rect(1, 1, 2, 2), rect(4, 4, 8, 8), rect(4, 1, 5, 2)), "unit 1; area 0 0 9 0 9 9 0 9; clear; area 4 4 4 8 8 8 8 4; area 1 1 1 2 2 2 2 1; area 4 1 4 2 5 2 5 1"},
		{"a piece in a hole", regionOf(t, append(without(t, plate, rect(2, 2, 8, 8)), rect(4, 4, 6, 6))...), "unit 1; area 0 0 9 0 9 9 0 9; clear; area 2 2 2 8 8 8 8 2; dark; area 4 4 6 4 6 6 4 6"},
		{"a hole in one piece, another piece as large", regionOf(t, append(without(t, regionOf(t, rect(0, 0, 3, 3)), rect(1, 1, 2, 2)), rect(5, 0, 6, 1))...), "unit 1; area 0 0 3 0 3 3 0 3; area 5 0 6 0 6 1 5 1; clear; area 1 1 1 2 2 2 2 1"},
		{"a hole before another piece as large", regionOf(t, append(without(t, regionOf(t, rect(0, 0, 3, 3)), rect(1, 1, 2, 2)), rect(5, 2, 6, 3))...), "unit 1; area 0 0 3 0 3 3 0 3; clear; area 1 1 1 2 2 2 2 1; dark; area 5 2 6 2 6 3 5 3"},
		{"squares at a corner", regionOf(t, rect(0, 0, 1, 1), rect(1, 1, 2, 2)), "unit 1; area 0 0 1 0 1 1 0 1; area 1 1 2 1 2 2 1 2"},
	} {
		p, f := Of(c.region)
		wantFault(t, c.what, f, api.OK)
		want(t, c.what, textOf(p), c.want)
		wantImage(t, c.what, p, c.region)
	}
}

// P5: regions that are none, or whose outlines have too many corners.
func TestFaultsOfOf(t *testing.T) {
	for _, c := range []struct {
		what   string
		region []api.Rect
		want   api.Fault
	}{
		{"as many corners as can be", column(0, api.MaxCorner/4), api.OK},
		{"too many corners", column(0, api.MaxCorner/4+1), api.ErrLarge},
		{"too many rectangles", column(0, api.MaxRects+1), api.ErrLarge},
		{"out of range", []api.Rect{rect(0, 0, api.MaxAt+1, 1)}, api.ErrRange},
		{"no width", []api.Rect{rect(0, 0, 0, 1)}, api.ErrZero},
		{"not in order", []api.Rect{rect(0, 5, 1, 6), rect(0, 0, 1, 1)}, api.ErrOrder},
		{"not canonical", []api.Rect{rect(0, 0, 1, 1), rect(1, 0, 2, 1)}, api.ErrForm},
	} {
		p, f := Of(c.region)
		wantFault(t, c.what, f, c.want)
		if f != api.OK {
			wantZero(t, c.what, p)
			continue
		}
		wantImage(t, c.what, p, c.region)
	}
}

// P5: the image of the plot of a region is the region; its areas are the outlines, by how many squares they go around.
func TestRandomOf(t *testing.T) {
	tried(t, 1500, func(rnd *rand.Rand) {
		var l []api.Rect
		for y := range 9 {
			for x := range 9 {
				if rnd.IntN(9) < 5 {
					l = append(l, rect(x, y, x+1, y+1))
				}
			}
		}
		if rnd.IntN(3) == 0 {
			l = append(l, rect(-1, -1, 10, 0), rect(-1, 9, 10, 10), rect(-1, 0, 0, 9), rect(9, 0, 10, 9))
		}
		r := regionOf(t, l...)
		p, f := Of(r)
		wantFault(t, "Of", f, api.OK)
		wantImage(t, "Of", p, r)
		wantFault(t, "CheckPlot of Of", CheckPlot(p), api.OK)
		want(t, "Of", textOf(p), textOf(modelOfRegion(r)))
	})
}

// modelOfRegion asks shape how many squares an outline goes around, and on which side of it the region is.
func modelOfRegion(r []api.Rect) api.Plot {
	outlines, _ := shape.Outlines(r)
	size := func(row []api.Point) int {
		filled, _ := shape.Filled([][]api.Point{row})
		n, _ := shape.Area(filled)
		return n
	}
	slices.SortStableFunc(outlines, func(a, b []api.Point) int { return size(b) - size(a) })
	p := api.Plot{Unit: 1}
	last := api.StepDark
	for _, row := range outlines {
		kind := api.StepClear
		if row[1].Y == row[0].Y { // from its least point on it goes to the right: around a piece
			kind = api.StepDark
		}
		if kind != last {
			p.Steps = append(p.Steps, api.PlotStep{Kind: kind})
			last = kind
		}
		p.Steps = append(p.Steps, api.PlotStep{Kind: api.StepArea, Points: row})
	}
	return p
}

// P2: an area draws what shape says that its row goes around.
func TestAreasAndFilled(t *testing.T) {
	tried(t, 2000, func(rnd *rand.Rand) {
		row := randomRow(rnd)
		want, f := shape.Filled([][]api.Point{row})
		wantFault(t, "Filled", f, api.OK)
		wantImage(t, "an area", api.Plot{Unit: 1, Steps: []api.PlotStep{{Kind: api.StepArea, Points: row}}}, want)
	})
}
