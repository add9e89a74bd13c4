package drill

import (
	"math"

	"etchhouse/api"
)

// Shortest returns the shortest order, of several the least one, and its length.
func Shortest(l []api.Point, from api.Point) ([]int, int, api.Fault) {
	if f := checkPoints(l, from, api.MaxExact); f != api.OK {
		return nil, 0, f
	}
	var order []int
	rest := rests(l)
	at, left := from, 1<<len(l)-1
	for left > 0 {
		next, _ := rest(at, left)
		order = append(order, next)
		at, left = l[next], left&^(1<<next)
	}
	_, length := rest(from, 1<<len(l)-1)
	return order, length, api.OK
}

// stop is where the machine is, and the points that are left, a bit for each.
type stop struct {
	at   api.Point
	left int
}

// step is to which point a shortest way goes next, and its length.
type step struct{ next, length int }

// rests returns a function that tells how a shortest way goes on from a point through those that are left; it keeps what it has found.
func rests(l []api.Point) func(at api.Point, left int) (int, int) {
	known := map[stop]step{}
	var rest func(at api.Point, left int) (int, int)
	rest = func(at api.Point, left int) (int, int) {
		if left == 0 {
			return 0, 0
		}
		if best, ok := known[stop{at, left}]; ok {
			return best.next, best.length
		}
		best := step{length: math.MaxInt}
		for next, p := range l {
			if left&(1<<next) == 0 {
				continue
			}
			_, length := rest(p, left&^(1<<next))
			if length += distance(at, p); length < best.length { // of several the first one, which is the least
				best = step{next, length}
			}
		}
		known[stop{at, left}] = best
		return best.next, best.length
	}
	return rest
}
