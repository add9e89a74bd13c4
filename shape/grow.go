package shape

import "etchhouse/api"

// Grow returns all squares of which some square of the region is at most n away.
func Grow(r []api.Rect, n int) ([]api.Rect, api.Fault) {
	if f := checkGrow(r, n); f != api.OK {
		return nil, f
	}
	if len(r) == 0 {
		return nil, api.OK
	}
	if reach := Widened(around(r), n); checkRect(reach) != api.OK {
		return nil, api.ErrRange
	}
	return combine(Spread(r, n, n), nil, inFirst)
}

// Shrink returns the squares around which all squares that are at most n away are in the region.
func Shrink(r []api.Rect, n int) ([]api.Rect, api.Fault) {
	if f := checkGrow(r, n); f != api.OK {
		return nil, f
	}
	return combine(r, Spread(Outside(r), n, n), inFirstAlone)
}

// Opened is Shrink, then Grow.
func Opened(r []api.Rect, n int) ([]api.Rect, api.Fault) {
	less, f := Shrink(r, n)
	if f != api.OK {
		return nil, f
	}
	return Grow(less, n)
}

// Closed is Grow, then Shrink.
func Closed(r []api.Rect, n int) ([]api.Rect, api.Fault) {
	more, f := Grow(r, n)
	if f != api.OK {
		return nil, f
	}
	return Shrink(more, n)
}

func checkGrow(r []api.Rect, n int) api.Fault {
	if f := CheckRegion(r); f != api.OK {
		return f
	}
	if n < 0 || n > api.MaxGrow {
		return api.ErrRange
	}
	return api.OK
}
