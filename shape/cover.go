package shape

import "etchhouse/api"

// What this file exports is for packages that need regions on the way to a result: rectangles must only have squares. They can lie anywhere, also over one another, and there can be any number of them.

// Overlap says whether two rectangles have a square in common.
func Overlap(a, b api.Rect) bool {
	c := Common(a, b)
	return c.X0 < c.X1 && c.Y0 < c.Y1
}

// Touch says whether two rectangles without a common square have a side of squares in common.
func Touch(a, b api.Rect) bool {
	c := Common(a, b)
	return c.X0 == c.X1 && c.Y0 < c.Y1 || c.X0 < c.X1 && c.Y0 == c.Y1
}

// Common returns what two rectangles have in common; it has squares only if they overlap.
func Common(a, b api.Rect) api.Rect {
	return api.Rect{
		X0: max(a.X0, b.X0), Y0: max(a.Y0, b.Y0),
		X1: min(a.X1, b.X1), Y1: min(a.Y1, b.Y1),
	}
}

// Widened returns all squares that are at most n away from a rectangle.
func Widened(r api.Rect, n int) api.Rect {
	return api.Rect{X0: r.X0 - n, Y0: r.Y0 - n, X1: r.X1 + n, Y1: r.Y1 + n}
}

// Distance returns the least distance of two squares of two rectangles: 0 if they have one in common, 1 if they touch.
func Distance(a, b api.Rect) int {
	c := Common(a, b)
	return max(0, c.X0-c.X1+1, c.Y0-c.Y1+1)
}

// LeastDistance returns the least distance of a square of a and one of b; neither is empty.
func LeastDistance(a, b []api.Rect) int {
	least := Distance(a[0], b[0])
	for _, x := range a {
		for _, y := range b {
			least = min(least, Distance(x, y))
		}
	}
	return least
}

// FirstIn returns the least square (by Y, then X) that is in a and in b, and whether there is one.
func FirstIn(a, b []api.Rect) (api.Point, bool) {
	var first api.Point
	found := false
	for _, x := range a {
		for _, y := range b {
			if !Overlap(x, y) {
				continue
			}
			if p := corner(Common(x, y)); !found || comparePoints(p, first) < 0 {
				first, found = p, true
			}
		}
	}
	return first, found
}

// covered returns the region of some rectangles.
func covered(l []api.Rect) []api.Rect {
	out, _ := sweep(l, nil, noLimit, inFirst)
	return out
}

// InBoth returns the region of what is in a and in b.
func InBoth(a, b []api.Rect) []api.Rect {
	out, _ := sweep(a, b, noLimit, inEach)
	return out
}

// InFirstAlone returns the region of what is in a, but not in b.
func InFirstAlone(a, b []api.Rect) []api.Rect {
	out, _ := sweep(a, b, noLimit, inFirstAlone)
	return out
}

// Outside returns what is not in a region, up to one square beyond its bounds: of the squares beyond, those are the nearest ones.
func Outside(r []api.Rect) []api.Rect {
	if len(r) == 0 {
		return nil
	}
	return InFirstAlone([]api.Rect{Widened(around(r), 1)}, r)
}

// Spread returns rectangles, perhaps over one another, that cover all squares from low to the left of and below, to high to the right of and above some square. They are joined along X and Y before they are spread along Y, since sweep takes long where many rectangles lie over one another.
func Spread(r []api.Rect, low, high int) []api.Rect {
	wide := make([]api.Rect, 0, len(r))
	for _, x := range r {
		wide = append(wide, api.Rect{X0: x.X0 - low, Y0: x.Y0, X1: x.X1 + high, Y1: x.Y1})
	}
	out := Stacked(covered(wide))
	for i := range out {
		out[i].Y0 -= low
		out[i].Y1 += high
	}
	return out
}

// Stacked returns, in general, fewer rectangles with the same squares as a region: those that lie one over the other with the same left and right sides are joined, though bands cut them.
func Stacked(r []api.Rect) []api.Rect {
	type roof struct{ x0, x1, y int }
	below := map[roof]int{}
	var out []api.Rect
	for _, x := range r {
		k, ok := below[roof{x.X0, x.X1, x.Y0}]
		if ok {
			out[k].Y1 = x.Y1
		} else {
			k = len(out)
			out = append(out, x)
		}
		below[roof{x.X0, x.X1, x.Y1}] = k
	}
	return out
}
