// Package shape has regions of the plane: what they have in common, growing, pieces, outlines and turning.
package shape

import (
	"slices"

	"etchhouse/api"
)

// CheckRects validates rectangles, which can lie over one another.
func CheckRects(l []api.Rect) api.Fault {
	if len(l) > api.MaxRects {
		return api.ErrLarge
	}
	for _, r := range l {
		if f := checkRect(r); f != api.OK {
			return f
		}
	}
	return api.OK
}

func checkRect(r api.Rect) api.Fault {
	if !inRange(r.X0) || !inRange(r.Y0) || !inRange(r.X1) || !inRange(r.Y1) {
		return api.ErrRange
	}
	if r.X1 <= r.X0 || r.Y1 <= r.Y0 {
		return api.ErrZero
	}
	return api.OK
}

func inRange(n int) bool {
	return n >= -api.MaxAt && n <= api.MaxAt
}

func pointInRange(p api.Point) bool {
	return inRange(p.X) && inRange(p.Y)
}

// CheckRegion validates a region in its canonical form.
func CheckRegion(r []api.Rect) api.Fault {
	if f := CheckRects(r); f != api.OK {
		return f
	}
	for i := 1; i < len(r); i++ {
		if comparePoints(corner(r[i-1]), corner(r[i])) >= 0 {
			return api.ErrOrder
		}
	}
	if !canonical(r) {
		return api.ErrForm
	}
	return api.OK
}

// checkBoth is what all functions with two regions return first.
func checkBoth(a, b []api.Rect) api.Fault {
	if f := CheckRegion(a); f != api.OK {
		return f
	}
	return CheckRegion(b)
}

// canonical needs the rectangles to be in order: then it is enough to look at each band and the one before it.
func canonical(r []api.Rect) bool {
	var before []api.Rect
	for len(r) > 0 {
		n := bandLength(r)
		band := r[:n]
		if !evenBand(band) || !mayFollow(before, band) {
			return false
		}
		before, r = band, r[n:]
	}
	return true
}

// bandLength is how many rectangles at the beginning of a list have the same Y0.
func bandLength(r []api.Rect) int {
	n := 1
	for n < len(r) && r[n].Y0 == r[0].Y0 {
		n++
	}
	return n
}

// evenBand says whether rectangles with one Y0 end at one height and do not touch.
func evenBand(band []api.Rect) bool {
	for i := 1; i < len(band); i++ {
		if band[i].Y1 != band[0].Y1 || band[i].X0 <= band[i-1].X1 {
			return false
		}
	}
	return true
}

// mayFollow says whether a band begins behind the one before it, and could not be joined with it.
func mayFollow(before, band []api.Rect) bool {
	if len(before) == 0 || before[0].Y1 < band[0].Y0 {
		return true
	}
	return before[0].Y1 == band[0].Y0 && !slices.EqualFunc(before, band, func(a, b api.Rect) bool {
		return a.X0 == b.X0 && a.X1 == b.X1
	})
}
