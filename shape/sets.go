package shape

import (
	"cmp"

	"etchhouse/api"
)

// Region returns the canonical form of what some rectangles cover together.
func Region(l []api.Rect) ([]api.Rect, api.Fault) {
	if f := CheckRects(l); f != api.OK {
		return nil, f
	}
	return combine(l, nil, inFirst)
}

// Union returns what is in a or in b.
func Union(a, b []api.Rect) ([]api.Rect, api.Fault) {
	return combineRegions(a, b, func(inA, inB int) bool { return inA > 0 || inB > 0 })
}

// Both returns what is in a and in b.
func Both(a, b []api.Rect) ([]api.Rect, api.Fault) {
	return combineRegions(a, b, inEach)
}

// Minus returns what is in a, but not in b.
func Minus(a, b []api.Rect) ([]api.Rect, api.Fault) {
	return combineRegions(a, b, inFirstAlone)
}

func inEach(inA, inB int) bool {
	return inA > 0 && inB > 0
}

func inFirstAlone(inA, inB int) bool {
	return inA > 0 && inB == 0
}

func combineRegions(a, b []api.Rect, keep keeper) ([]api.Rect, api.Fault) {
	if f := checkBoth(a, b); f != api.OK {
		return nil, f
	}
	return combine(a, b, keep)
}

// Area returns how many unit squares a region has.
func Area(r []api.Rect) (int, api.Fault) {
	if f := CheckRegion(r); f != api.OK {
		return 0, f
	}
	n := 0
	for _, x := range r {
		n += (x.X1 - x.X0) * (x.Y1 - x.Y0)
	}
	return n, api.OK
}

// Has says whether the square of a point is in a region.
func Has(r []api.Rect, p api.Point) (bool, api.Fault) {
	if f := CheckRegion(r); f != api.OK {
		return false, f
	}
	if !pointInRange(p) {
		return false, api.ErrRange
	}
	for _, x := range r {
		if Overlap(x, squareAt(p)) {
			return true, api.OK
		}
	}
	return false, api.OK
}

// Bounds returns the least rectangle around a region, and false if there is none.
func Bounds(r []api.Rect) (api.Rect, bool, api.Fault) {
	if f := CheckRegion(r); f != api.OK || len(r) == 0 {
		return api.Rect{}, false, f
	}
	return around(r), true, api.OK
}

// around returns the least rectangle around at least one rectangle.
func around(l []api.Rect) api.Rect {
	out := l[0]
	for _, r := range l {
		out = api.Rect{
			X0: min(out.X0, r.X0), Y0: min(out.Y0, r.Y0),
			X1: max(out.X1, r.X1), Y1: max(out.Y1, r.Y1),
		}
	}
	return out
}

func squareAt(p api.Point) api.Rect {
	return api.Rect{X0: p.X, Y0: p.Y, X1: p.X + 1, Y1: p.Y + 1}
}

// corner is the least square of a rectangle.
func corner(r api.Rect) api.Point {
	return api.Point{X: r.X0, Y: r.Y0}
}

// comparePoints orders by Y, then X.
func comparePoints(p, q api.Point) int {
	return cmp.Or(cmp.Compare(p.Y, q.Y), cmp.Compare(p.X, q.X))
}
