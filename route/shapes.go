package route

import (
	"cmp"
	"maps"
	"slices"

	"etchhouse/api"
	"etchhouse/shape"
)

// Shapes returns the copper of a way for each layer, and where it changes its layer.
func Shapes(g api.Grid, w []api.Cell, at api.Point, pitch, width int) ([][]api.Rect, []api.Point, api.Fault) {
	if f := CheckWay(g, w); f != api.OK {
		return nil, nil, f
	}
	if !isPlace(at.X) || !isPlace(at.Y) || !isWithin(pitch, 1, api.MaxPitch) || !isWithin(width, 1, pitch) {
		return nil, nil, api.ErrRange
	}
	middle := func(c api.Cell) api.Point {
		return api.Point{X: at.X + pitch*c.X, Y: at.Y + pitch*c.Y}
	}
	rects := make([][]api.Rect, g.Layers)
	changes := map[api.Point]bool{}
	for i, c := range w {
		one := square(middle(c), width)
		if !isPlace(one.X0) || !isPlace(one.Y0) || !isPlace(one.X1) || !isPlace(one.Y1) {
			return nil, nil, api.ErrRange
		}
		if i > 0 && w[i-1].Layer == c.Layer {
			one = aroundBoth(square(middle(w[i-1]), width), one)
		} else if i > 0 {
			changes[middle(c)] = true
		}
		rects[c.Layer] = append(rects[c.Layer], one)
	}
	regions, f := regionsOf(rects)
	if f != api.OK {
		return nil, nil, f
	}
	return regions, slices.SortedFunc(maps.Keys(changes), comparePoints), api.OK
}

func isPlace(n int) bool {
	return isWithin(n, -api.MaxAt, api.MaxAt)
}

func square(middle api.Point, width int) api.Rect {
	x, y := middle.X-width/2, middle.Y-width/2
	return api.Rect{X0: x, Y0: y, X1: x + width, Y1: y + width}
}

// aroundBoth returns the least rectangle around two.
func aroundBoth(a, b api.Rect) api.Rect {
	return api.Rect{X0: min(a.X0, b.X0), Y0: min(a.Y0, b.Y0), X1: max(a.X1, b.X1), Y1: max(a.Y1, b.Y1)}
}

// regionsOf returns what lists of rectangles cover, of which there can be more than a region has.
func regionsOf(lists [][]api.Rect) ([][]api.Rect, api.Fault) {
	var out [][]api.Rect
	for _, l := range lists {
		region := shape.InFirstAlone(l, nil)
		if len(region) > api.MaxRects {
			return nil, api.ErrLarge
		}
		out = append(out, region)
	}
	return out, api.OK
}

// comparePoints orders by Y, then X.
func comparePoints(p, q api.Point) int {
	return cmp.Or(cmp.Compare(p.Y, q.Y), cmp.Compare(p.X, q.X))
}
