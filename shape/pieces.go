package shape

import "etchhouse/api"

// Pieces returns the parts of a region that hang together by sides of squares.
func Pieces(r []api.Rect) ([][]api.Rect, api.Fault) {
	if f := CheckRegion(r); f != api.OK {
		return nil, f
	}
	return parts(r), api.OK
}

// Holes returns the parts of what is not in a region that do not reach beyond its bounds.
func Holes(r []api.Rect) ([][]api.Rect, api.Fault) {
	if f := CheckRegion(r); f != api.OK || len(r) == 0 {
		return nil, f
	}
	all := around(r)
	var out [][]api.Rect
	for _, p := range parts(Outside(r)) {
		if around(p) == Common(around(p), all) {
			out = append(out, p)
		}
	}
	return out, api.OK
}

// parts returns what hangs together in a canonical region, each part in its own canonical form, by first rectangles.
func parts(r []api.Rect) [][]api.Rect {
	number := map[int]int{} // of a part, by its first rectangle
	var out [][]api.Rect
	for i, first := range firsts(r) {
		if first == i {
			number[i] = len(out)
			out = append(out, nil)
		}
		k := number[first]
		out[k] = append(out[k], r[i])
	}
	for k := range out {
		out[k] = covered(out[k]) // other parts can have cut a band of this one
	}
	return out
}

// firsts returns for each rectangle the number of the first one that hangs together with it.
func firsts(r []api.Rect) []int {
	to := make([]int, len(r))
	starting := map[int][]int{} // rectangles by Y0
	for i, x := range r {
		to[i] = i
		starting[x.Y0] = append(starting[x.Y0], i)
	}
	root := func(i int) int {
		for to[i] != i {
			to[i] = to[to[i]]
			i = to[i]
		}
		return i
	}
	for i, x := range r {
		for _, j := range starting[x.Y1] {
			if x.X0 < r[j].X1 && r[j].X0 < x.X1 {
				a, b := root(i), root(j)
				to[max(a, b)] = min(a, b)
			}
		}
	}
	for i := range to {
		to[i] = root(i)
	}
	return to
}
