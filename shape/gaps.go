package shape

import "etchhouse/api"

// Gaps returns the distances of each two regions that are nearer to each other than a number.
func Gaps(l [][]api.Rect, below int) ([]api.Gap, api.Fault) {
	if f := checkGaps(l, below); f != api.OK {
		return nil, f
	}
	var out []api.Gap
	for i, a := range l {
		for j := i + 1; j < len(l); j++ {
			if len(a) == 0 || len(l[j]) == 0 {
				continue
			}
			away := LeastDistance(a, l[j])
			if away == 0 {
				return nil, api.ErrClash
			}
			if away-1 < below {
				from := firstNear(a, l[j], away)
				to := firstNear(l[j], []api.Rect{squareAt(from)}, away)
				out = append(out, api.Gap{A: i, B: j, Distance: away - 1, From: from, To: to})
			}
		}
	}
	return out, api.OK
}

func checkGaps(l [][]api.Rect, below int) api.Fault {
	if len(l) > api.MaxRects {
		return api.ErrLarge
	}
	n := 0
	for _, r := range l {
		n += len(r)
	}
	if n > api.MaxRects {
		return api.ErrLarge
	}
	for _, r := range l {
		if f := CheckRegion(r); f != api.OK {
			return f
		}
	}
	if below < 0 || below > api.MaxGrow {
		return api.ErrRange
	}
	return api.OK
}

// firstNear returns the least square (by Y, then X) of a that is at most so far from b; there must be one.
func firstNear(a, b []api.Rect, away int) api.Point {
	near := make([]api.Rect, 0, len(b))
	for _, y := range b {
		near = append(near, Widened(y, away))
	}
	first, _ := FirstIn(a, near)
	return first
}
