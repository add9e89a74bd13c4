package drill

import (
	"slices"

	"etchhouse/api"
)

// Better returns an order that is made shorter, turn by turn.
func Better(l []api.Point, from api.Point) ([]int, api.Fault) {
	if f := checkPoints(l, from, api.MaxTour); f != api.OK {
		return nil, f
	}
	t := tour{l, from, greedy(l, from)}
	for range api.MaxTurns {
		if !t.turn() {
			break
		}
	}
	return t.order, api.OK
}

// tour is an order of points.
type tour struct {
	points []api.Point
	from   api.Point
	order  []int
}

// at is the point at a place of the order; from is at the place before the first one.
func (t tour) at(place int) api.Point {
	if place < 0 {
		return t.from
	}
	return t.points[t.order[place]]
}

// turn does the first turn that makes the way shorter, and says whether there is one.
func (t tour) turn() bool {
	for i := range t.order {
		for j := i + 1; j < len(t.order); j++ {
			if t.getsShorter(i, j) {
				slices.Reverse(t.order[i : j+1])
				return true
			}
		}
	}
	return false
}

// getsShorter says whether the way is shorter if the points from place i to place j are gone through in the contrary order. Only what leads to them and away from them changes; nothing leads away from the last place.
func (t tour) getsShorter(i, j int) bool {
	before, first, last := t.at(i-1), t.at(i), t.at(j)
	saved := distance(before, first) - distance(before, last)
	if j+1 < len(t.order) {
		behind := t.at(j + 1)
		saved += distance(last, behind) - distance(first, behind)
	}
	return saved > 0
}
