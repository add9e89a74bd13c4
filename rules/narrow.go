package rules

import (
	"sort"

	"etchhouse/api"
	"etchhouse/shape"
)

// Thin returns the squares of a region that are thin for a width.
func Thin(r []api.Rect, width int) ([]api.Rect, api.Fault) {
	if f := shape.CheckRegion(r); f != api.OK {
		return nil, f
	}
	if !isRule(width) {
		return nil, api.ErrRange
	}
	out := thin(r, width)
	if len(out) > api.MaxRects {
		return nil, api.ErrLarge
	}
	return out, api.OK
}

// thin returns the squares of a region that no square area of so many by so many squares has which lies in it.
func thin(r []api.Rect, width int) []api.Rect {
	if width == 0 {
		return nil
	}
	firsts := shape.InFirstAlone(r, shape.Spread(shape.Outside(r), width-1, 0)) // the least square of each such area
	return shape.InFirstAlone(r, shape.Spread(firsts, 0, width-1))
}

// narrowPieces finds what Narrow tells.
func (i inspection) narrowPieces(yield func(api.Break) bool) {
	for k, p := range i.pieces {
		need := i.width(i.netOf(p))
		l := thin(p.region, need)
		if len(l) == 0 {
			continue
		}
		is := widest(p.region, need)
		at := api.Point{X: l[0].X0, Y: l[0].Y0}
		if !yield(api.Break{Kind: api.BreakWidth, A: k, Is: is, Need: need, At: at}) {
			return
		}
	}
}

// widest is the greatest width below another one for which no square of a region is thin.
func widest(r []api.Rect, below int) int {
	return sort.Search(below, func(width int) bool { return len(thin(r, width)) > 0 }) - 1
}
