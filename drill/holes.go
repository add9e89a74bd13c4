package drill

import (
	"maps"
	"slices"

	"etchhouse/api"
)

// Sizes returns the sizes of holes, each once, in order.
func Sizes(l []api.Hole) ([]int, api.Fault) {
	if f := CheckHoles(l); f != api.OK {
		return nil, f
	}
	sizes := map[int]bool{}
	for _, h := range l {
		sizes[h.Size] = true
	}
	return slices.Sorted(maps.Keys(sizes)), api.OK
}

// Repeated returns the numbers of the holes at whose point an earlier one is.
func Repeated(l []api.Hole) ([]int, api.Fault) {
	if f := CheckHoles(l); f != api.OK {
		return nil, f
	}
	var repeated []int
	taken := map[api.Point]bool{}
	for i, h := range l {
		if taken[h.At] {
			repeated = append(repeated, i)
		}
		taken[h.At] = true
	}
	return repeated, api.OK
}

// Near returns the pairs of holes at different points that are too near.
func Near(l []api.Hole, below int) ([]api.Pair, api.Fault) {
	if f := CheckHoles(l); f != api.OK {
		return nil, f
	}
	if !isWithin(below, 0, api.MaxHoleSize) {
		return nil, api.ErrRange
	}
	var near []api.Pair
	for a, first := range l {
		for b := a + 1; b < len(l); b++ {
			n := between(first, l[b])
			if n < below && first.At != l[b].At {
				near = append(near, api.Pair{A: a, B: b, Distance: n})
			}
		}
	}
	return near, api.OK
}

// between is how much lies between the squares that two holes take.
func between(a, b api.Hole) int {
	return max(distance(a.At, b.At)-(a.Size+b.Size)/2, 0)
}
