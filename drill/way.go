package drill

import (
	"cmp"
	"slices"

	"etchhouse/api"
)

// apart is how much two numbers differ.
func apart(a, b int) int {
	return max(a-b, b-a)
}

// distance is how far the machine goes from a point to another one.
func distance(a, b api.Point) int {
	return max(apart(a.X, b.X), apart(a.Y, b.Y))
}

// checkPoints validates points, of which there can be so many, and the one from which a way to them begins.
func checkPoints(l []api.Point, from api.Point, most int) api.Fault {
	if len(l) > most {
		return api.ErrLarge
	}
	if !isPlace(from) || slices.ContainsFunc(l, func(p api.Point) bool { return !isPlace(p) }) {
		return api.ErrRange
	}
	return api.OK
}

// Way returns how far the machine goes through all points.
func Way(l []api.Point, from api.Point) (int, api.Fault) {
	if f := checkPoints(l, from, api.MaxHoles); f != api.OK {
		return 0, f
	}
	length, at := 0, from
	for _, p := range l {
		length += distance(at, p)
		at = p
	}
	return length, api.OK
}

// Greedy returns the order in which the machine always goes to the nearest point that is left.
func Greedy(l []api.Point, from api.Point) ([]int, api.Fault) {
	if f := checkPoints(l, from, api.MaxTour); f != api.OK {
		return nil, f
	}
	return greedy(l, from), api.OK
}

func greedy(l []api.Point, from api.Point) []int {
	var left, order []int
	for i := range l {
		left = append(left, i)
	}
	at := from
	for len(left) > 0 {
		next := slices.MinFunc(left, func(a, b int) int { // of several the first one, which is the least
			return cmp.Compare(distance(at, l[a]), distance(at, l[b]))
		})
		order = append(order, next)
		left = slices.DeleteFunc(left, func(i int) bool { return i == next })
		at = l[next]
	}
	return order
}
