package route_test

import (
	"fmt"
	"math/rand/v2"
	"slices"
	"testing"

	"etchhouse/api"
	"etchhouse/route"
	"etchhouse/shape"
)

// U5: the copper of ways with odd and even widths.
func TestShapes(t *testing.T) {
	for _, l := range []struct {
		what, way    string
		layers       int
		at           api.Point
		pitch, width int
		want         [][]api.Rect
		changes      []api.Point
	}{
		{"one cell", "0,0", 1, point(0, 0), 1, 1, [][]api.Rect{{rect(0, 0, 1, 1)}}, nil},
		{"an odd width", "0,0", 1, point(5, 7), 3, 3, [][]api.Rect{{rect(4, 6, 7, 9)}}, nil},
		{"an even width", "0,0", 1, point(5, 7), 9, 4, [][]api.Rect{{rect(3, 5, 7, 9)}}, nil},
		{"an odd width below 0", "0,0", 1, point(-5, -7), 9, 5, [][]api.Rect{{rect(-7, -9, -2, -4)}}, nil},
		{"an even width below 0", "0,0", 1, point(-5, -7), 9, 2, [][]api.Rect{{rect(-6, -8, -4, -6)}}, nil},
		{"a later cell", "2,3", 1, point(100, 200), 10, 3, [][]api.Rect{{rect(119, 229, 122, 232)}}, nil},
		{"along X", "0,0 1,0 2,0", 1, point(0, 0), 10, 4, [][]api.Rect{{rect(-2, -2, 22, 2)}}, nil},
		{"along X, backwards", "2,0 1,0 0,0", 1, point(0, 0), 10, 4, [][]api.Rect{{rect(-2, -2, 22, 2)}}, nil},
		{"along Y", "1,0 1,1", 1, point(0, 0), 10, 3, [][]api.Rect{{rect(9, -1, 12, 12)}}, nil},
		{"along Y, backwards", "1,1 1,0", 1, point(0, 0), 10, 3, [][]api.Rect{{rect(9, -1, 12, 12)}}, nil},
		{"a corner", "0,0 1,0 1,1", 1, point(0, 0), 10, 3, [][]api.Rect{{rect(-1, -1, 12, 2), rect(9, 2, 12, 12)}}, nil},
		{"as wide as the pitch", "0,0 1,0 1,1", 1, point(0, 0), 4, 4, [][]api.Rect{{rect(-2, -2, 6, 2), rect(2, 2, 6, 6)}}, nil},
		{"around a square", "0,0 1,0 1,1 0,1", 1, point(0, 0), 4, 4, [][]api.Rect{{rect(-2, -2, 6, 6)}}, nil},
		{"another layer", "0,0 1,0 1,0,1", 2, point(100, 0), 10, 3, [][]api.Rect{{rect(99, -1, 112, 2)}, {rect(109, -1, 112, 2)}}, []api.Point{point(110, 0)}},
		{"all layers", "0,0,1 0,0,0", 4, point(0, 0), 10, 2, [][]api.Rect{{rect(-1, -1, 1, 1)}, {rect(-1, -1, 1, 1)}, nil, nil}, []api.Point{point(0, 0)}},
		{"one layer alone", "0,0,2 1,0,2", 3, point(0, 0), 2, 1, [][]api.Rect{nil, nil, {rect(0, 0, 3, 1)}}, nil},
		{"a place where it changes twice", "0,0 0,0,1 0,0,2 1,0,2", 3, point(3, 3), 5, 1, [][]api.Rect{{rect(3, 3, 4, 4)}, {rect(3, 3, 4, 4)}, {rect(3, 3, 9, 4)}}, []api.Point{point(3, 3)}},
		{"a place where it changes again later", "0,0 0,0,1 1,0,1 1,0,2 0,0,2 0,0,3", 4, point(0, 0), 2, 1, [][]api.Rect{{rect(0, 0, 1, 1)}, {rect(0, 0, 3, 1)}, {rect(0, 0, 3, 1)}, {rect(0, 0, 1, 1)}}, []api.Point{point(0, 0), point(2, 0)}},
		{"changes by Y, then X", "1,1 1,1,1 0,1,1 0,1,0 0,0,0 0,0,1 1,0,1 1,0,0", 2, point(-1, -1), 1, 1, [][]api.Rect{{rect(-1, -1, 1, 1)}, {rect(-1, -1, 1, 1)}}, []api.Point{point(-1, -1), point(0, -1), point(-1, 0), point(0, 0)}},
		{"cells that are neighbours, but not one behind the other", "0,0 1,0 1,1 0,1", 1, point(0, 0), 3, 1, [][]api.Rect{{rect(0, 0, 4, 1), rect(3, 1, 4, 3), rect(0, 3, 4, 4)}}, nil},
		{"back on a layer", "0,0 0,0,1 1,0,1 1,0,0", 2, point(0, 0), 3, 1, [][]api.Rect{{rect(0, 0, 1, 1), rect(3, 0, 4, 1)}, {rect(0, 0, 4, 1)}}, []api.Point{point(0, 0), point(3, 0)}},
	} {
		r, p, f := route.Shapes(empty(5, 5, l.layers), cells(l.way), l.at, l.pitch, l.width)
		for i, expected := range l.want { // Region joins rows that are the same
			l.want[i], _ = shape.Region(expected)
		}
		wantGood(t, l.what, r, f, l.want)
		wantGood(t, l.what, p, f, l.changes)
	}
}

// U5: the copper of random ways holds against the model; it is in regions.
func TestShapesModel(t *testing.T) {
	tried(t, 600, func(rnd *rand.Rand) {
		g := randomGrid(rnd, 5, 3, 40, 8)
		w := randomWay(rnd, g)
		at, pitch := point(rnd.IntN(41)-20, rnd.IntN(41)-20), 1+rnd.IntN(6)
		width := 1 + rnd.IntN(pitch)
		what := fmt.Sprintf("%+v %v %v %d %d", g, w, at, pitch, width)
		r, p, f := route.Shapes(g, w, at, pitch, width)
		wantFault(t, what, f, api.OK)
		want(t, what, len(r), g.Layers)
		for layer, region := range r {
			wantFault(t, what, shape.CheckRegion(region), api.OK)
			want(t, what, squaresOf(region), squaresModel(w, layer, at, pitch, width))
		}
		var changes []api.Point
		for i, c := range w[1:] {
			if c.Layer != w[i].Layer {
				changes = append(changes, point(at.X+pitch*c.X, at.Y+pitch*c.Y))
			}
		}
		slices.SortFunc(changes, comparePoints)
		want(t, what, p, slices.Compact(changes))
	})
}

// squaresOf are the unit squares of rectangles that do not lie over one another.
func squaresOf(region []api.Rect) []api.Point {
	var out []api.Point
	for _, r := range region {
		for y := r.Y0; y < r.Y1; y++ {
			for x := r.X0; x < r.X1; x++ {
				out = append(out, point(x, y))
			}
		}
	}
	slices.SortFunc(out, comparePoints)
	return out
}

// randomWay goes anywhere.
func randomWay(rnd *rand.Rand, g api.Grid) []api.Cell {
	free := freeCells(g)
	w := []api.Cell{free[rnd.IntN(len(free))]}
	for range rnd.IntN(25) {
		n := slices.DeleteFunc(neighbours(g, w[len(w)-1]), func(n api.Cell) bool { return slices.Contains(w, n) })
		if len(n) > 0 {
			w = append(w, n[rnd.IntN(len(n))])
		}
	}
	return w
}

// U5: places, pitches and widths at each bound, and one past it.
func TestFaultsOfShapes(t *testing.T) {
	const most, pitch = api.MaxAt, api.MaxPitch
	for _, l := range []struct {
		what, way    string
		at           api.Point
		pitch, width int
		want         api.Fault
	}{
		{"the greatest pitch", "0,0", point(0, 0), pitch, pitch, api.OK},
		{"no pitch", "0,0", point(0, 0), 0, 1, api.ErrRange},
		{"no pitch and no width", "0,0", point(0, 0), 0, 0, api.ErrRange},
		{"a pitch below 0", "0,0", point(0, 0), -1, -1, api.ErrRange},
		{"too great a pitch", "0,0", point(0, 0), pitch + 1, 1, api.ErrRange},
		{"no width", "0,0", point(0, 0), 10, 0, api.ErrRange},
		{"a width below 0", "0,0", point(0, 0), 10, -1, api.ErrRange},
		{"a width as great as the pitch", "0,0", point(0, 0), 10, 10, api.OK},
		{"too great a width", "0,0", point(0, 0), 10, 11, api.ErrRange},
		{"at the left and below", "0,0", point(-most, -most), 1, 1, api.OK},
		{"at the right", "0,0", point(most-1, 0), 1, 1, api.OK},
		{"above", "0,0", point(0, most-1), 1, 1, api.OK},
		{"at the right, and out", "0,0", point(most, 0), 1, 1, api.ErrRange},
		{"above, and out", "0,0", point(0, most), 1, 1, api.ErrRange},
		{"further to the right", "0,0", point(most+1, 0), 1, 1, api.ErrRange},
		{"further above", "0,0", point(0, most+1), 1, 1, api.ErrRange},
		{"further to the left", "0,0", point(-most-1, 0), 1, 1, api.ErrRange},
		{"further below", "0,0", point(0, -most-1), 1, 1, api.ErrRange},
		{"further to the left, with the copper within", "9,9", point(-most-1, 0), 10, 2, api.ErrRange},
		{"an even width at the right", "0,0", point(most-2, 0), 4, 4, api.OK},
		{"an odd width at the right", "0,0", point(most-3, 0), 5, 5, api.OK},
		{"an odd width at the right, and out", "0,0", point(most-2, 0), 5, 5, api.ErrRange},
		{"an even width at the right, and out", "0,0", point(most-1, 0), 4, 4, api.ErrRange},
		{"an even width at the left", "0,0", point(2-most, 0), 4, 4, api.OK},
		{"an even width at the left, and out", "0,0", point(1-most, 0), 4, 4, api.ErrRange},
		{"an odd width below", "0,0", point(0, 2-most), 5, 5, api.OK},
		{"an odd width below, and out", "0,0", point(0, 1-most), 5, 5, api.ErrRange},
		{"an odd width above", "0,0", point(0, most-3), 5, 5, api.OK},
		{"an odd width above, and out", "0,0", point(0, most-2), 5, 5, api.ErrRange},
		{"a later cell at the right", "3,0", point(most-31, 0), 10, 2, api.OK},
		{"a later cell at the right, and out", "3,0", point(most-30, 0), 10, 2, api.ErrRange},
		{"the last one of some cells above", "0,7 0,8 0,9", point(0, most-91), 10, 2, api.OK},
		{"the last one of some cells above, and out", "0,7 0,8 0,9", point(0, most-90), 10, 2, api.ErrRange},
		{"the first one of some cells above, and out", "0,9 0,8 0,7", point(0, most-90), 10, 2, api.ErrRange},
		{"a cell on another layer, and out", "8,0 8,0,1 9,0,1 9,0", point(most-90, 0), 10, 2, api.ErrRange},
		{"a way before numbers", "0,0 2,0", point(most+1, 0), 0, 0, api.ErrForm},
		{"no way before numbers", "", point(most+1, 0), 0, 0, api.ErrNone},
	} {
		r, p, f := route.Shapes(empty(10, 10, 2), cells(l.way), l.at, l.pitch, l.width)
		wantFault(t, l.what, f, l.want)
		if l.want != api.OK {
			wantWrong(t, l.what, f, l.want, r, p)
		}
	}
	far := api.MaxSide - 1
	r, p, f := route.Shapes(empty(api.MaxSide, 1, 1), []api.Cell{{X: far}}, point(-most, 0), api.MaxPitch, 1)
	wantGood(t, "the last cell", r, f, [][]api.Rect{{rect(-most+far*pitch, 0, -most+far*pitch+1, 1)}})
	wantGood(t, "the last cell", p, f, nil)
}

// zigzag goes up and down along so many columns (an odd number), then back above, so many times: most of its columns are rectangles by themselves.
func zigzag(columns, times int) []api.Cell {
	var out []api.Cell
	for i := range times {
		for k := range columns {
			x, y := k, 4*i
			if i%2 == 1 {
				x = columns - 1 - k
			}
			up := []api.Cell{{X: x, Y: y}, {X: x, Y: y + 1}, {X: x, Y: y + 2}}
			if k%2 == 1 {
				slices.Reverse(up)
			}
			out = append(out, up...)
		}
		last := out[len(out)-1]
		out = append(out, api.Cell{X: last.X, Y: last.Y + 1})
	}
	return out
}

// U5: regions of as many rectangles as can be, and more.
func TestLargestShapes(t *testing.T) {
	g := empty(api.MaxSide, api.MaxSide, 2)
	g.H = 40
	w := zigzag(99, 10)
	last := w[len(w)-1]
	r, p, f := route.Shapes(g, w, point(0, 0), 10, 3)
	wantFault(t, "as many as can be", f, api.OK)
	want(t, "as many as can be", len(r[0]), api.MaxRects)
	longer := append(slices.Clone(w), api.Cell{X: last.X, Y: last.Y, Layer: 1})
	r, p, f = route.Shapes(g, longer, point(0, 0), 10, 3)
	wantGood(t, "one more on another layer", []int{len(r[0]), len(r[1])}, f, []int{api.MaxRects, 1})
	longer = append(slices.Clone(w), api.Cell{X: last.X + 1, Y: last.Y})
	wantFault(t, "one more", route.CheckWay(g, longer), api.OK)
	r, p, f = route.Shapes(g, longer, point(0, 0), 10, 3)
	wantWrong(t, "one more", f, api.ErrLarge, r, p)
	r, p, f = route.Shapes(g, longer, point(0, 0), 10, 10)
	wantGood(t, "one without gaps", len(r[0]), f, 2*10)
	r, p, f = route.Shapes(g, longer, point(api.MaxAt-100, 0), 10, 3)
	wantWrong(t, "the range before too many", f, api.ErrRange, r, p)
}

// U5: the longest way is of few rectangles, though it has many cells.
func TestLongestShapes(t *testing.T) {
	r, p, f := route.Shapes(empty(api.MaxSide, api.MaxSide, 1), snake(api.MaxSide, api.MaxSide), point(0, 0), 10, 2)
	wantFault(t, "the longest way", f, api.OK)
	want(t, "the longest way", len(r[0]), 399)
	want(t, "the longest way", p, nil)
	area, f := shape.Area(r[0])
	wantGood(t, "the longest way", area, f, 2*10*(api.MaxCells-1)+4)
}
