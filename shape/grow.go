package shape

import "etchhouse/api"

// Grow returns all squares of which some square of the region is at most n away.
func Grow(r []api.Rect, n int) ([]api.Rect, api.Fault) {
	if f := checkGrow(r, n); f != api.OK {
		return nil, f
	}
	if len(r) == 0 {
		return nil, api.OK
	}
	if reach := widened(around(r), n); checkRect(reach) != api.OK {
		return nil, api.ErrRange
	}
	return combine(grown(r, n), nil, inFirst)
}

// Shrink returns the squares around which all squares that are at most n away are in the region.
func Shrink(r []api.Rect, n int) ([]api.Rect, api.Fault) {
	if f := checkGrow(r, n); f != api.OK {
		return nil, f
	}
	if len(r) == 0 {
		return nil, api.OK
	}
	return combine(r, grown(outside(r), n), inFirstAlone)
}

// Opened is Shrink, then Grow.
func Opened(r []api.Rect, n int) ([]api.Rect, api.Fault) {
	less, f := Shrink(r, n)
	if f != api.OK {
		return nil, f
	}
	return Grow(less, n)
}

// Closed is Grow, then Shrink.
func Closed(r []api.Rect, n int) ([]api.Rect, api.Fault) {
	more, f := Grow(r, n)
	if f != api.OK {
		return nil, f
	}
	return Shrink(more, n)
}

func checkGrow(r []api.Rect, n int) api.Fault {
	if f := CheckRegion(r); f != api.OK {
		return f
	}
	if n < 0 || n > api.MaxGrow {
		return api.ErrRange
	}
	return api.OK
}

// widened returns all squares that are at most n away from a rectangle.
func widened(r api.Rect, n int) api.Rect {
	return api.Rect{X0: r.X0 - n, Y0: r.Y0 - n, X1: r.X1 + n, Y1: r.Y1 + n}
}

// grown returns rectangles that cover what is at most n away from a region. They are joined along X and Y before they grow along Y, since sweep takes long where many rectangles lie over one another.
func grown(r []api.Rect, n int) []api.Rect {
	wide := make([]api.Rect, 0, len(r))
	for _, x := range r {
		wide = append(wide, api.Rect{X0: x.X0 - n, Y0: x.Y0, X1: x.X1 + n, Y1: x.Y1})
	}
	out := stacked(covered(wide))
	for i := range out {
		out[i].Y0 -= n
		out[i].Y1 += n
	}
	return out
}

// stacked joins the rectangles of a region that lie one over the other with the same left and right sides, though bands cut them.
func stacked(r []api.Rect) []api.Rect {
	type roof struct{ x0, x1, y int }
	below := map[roof]int{}
	var out []api.Rect
	for _, x := range r {
		k, ok := below[roof{x.X0, x.X1, x.Y0}]
		if ok {
			out[k].Y1 = x.Y1
		} else {
			k = len(out)
			out = append(out, x)
		}
		below[roof{x.X0, x.X1, x.Y1}] = k
	}
	return out
}

// outside returns what is not in a region, up to one square beyond its bounds: of the squares beyond, those are the nearest ones.
func outside(r []api.Rect) []api.Rect {
	frame := []api.Rect{widened(around(r), 1)}
	out, _ := sweep(frame, r, noLimit, inFirstAlone)
	return out
}
