package shape

import (
	"cmp"
	"maps"
	"slices"

	"etchhouse/api"
)

// heading is where a side of a border begins, and the direction in which it goes: a step of length 1.
type heading struct{ at, step api.Point }

// Outlines returns the borders of a region, each with the region at its left hand.
func Outlines(r []api.Rect) ([][]api.Point, api.Fault) {
	if f := CheckRegion(r); f != api.OK {
		return nil, f
	}
	starts, ends := sidesOf(r)
	done := map[heading]bool{}
	var out [][]api.Point
	corners := 0
	for _, h := range starts {
		if done[h] {
			continue
		}
		row := fromLeast(border(ends, done, h))
		corners += len(row)
		out = append(out, row)
	}
	if corners > api.MaxCorner {
		return nil, api.ErrLarge
	}
	slices.SortFunc(out, func(a, b []api.Point) int {
		return cmp.Or(comparePoints(a[0], b[0]), comparePoints(b[1], a[1]))
	})
	return out, api.OK
}

// sidesOf returns all sides of a region, directed so that it is at their left hand: where they begin, and for each where it ends.
func sidesOf(r []api.Rect) ([]heading, map[heading]api.Point) {
	var starts []heading
	ends := map[heading]api.Point{}
	add := func(from, to api.Point) {
		h := heading{from, api.Point{X: cmp.Compare(to.X, from.X), Y: cmp.Compare(to.Y, from.Y)}}
		starts = append(starts, h)
		ends[h] = to
	}
	for _, x := range r {
		add(api.Point{X: x.X0, Y: x.Y1}, api.Point{X: x.X0, Y: x.Y0})
		add(api.Point{X: x.X1, Y: x.Y0}, api.Point{X: x.X1, Y: x.Y1})
	}
	meeting := edgesByHeight(r)
	for _, y := range slices.Sorted(maps.Keys(meeting)) {
		row := meeting[y]
		for _, s := range stretches(row, func(under, over int) bool { return over > under }) {
			add(api.Point{X: s.from, Y: y}, api.Point{X: s.to, Y: y})
		}
		for _, s := range stretches(row, func(under, over int) bool { return under > over }) {
			add(api.Point{X: s.to, Y: y}, api.Point{X: s.from, Y: y})
		}
	}
	return starts, ends
}

// edgesByHeight returns for each height the edges, by X, of the rectangles that end there (as list 0) and begin there (as list 1).
func edgesByHeight(r []api.Rect) map[int][]edge {
	out := map[int][]edge{}
	for _, e := range edgesOf(r, 0) {
		out[e.y1] = append(out[e.y1], e)
	}
	for _, e := range edgesOf(r, 1) {
		out[e.y0] = append(out[e.y0], e)
	}
	for _, l := range out {
		slices.SortFunc(l, func(d, e edge) int { return cmp.Compare(d.x, e.x) })
	}
	return out
}

// border follows sides until it comes to the first one again, and returns the corners on its way.
func border(ends map[heading]api.Point, done map[heading]bool, first heading) []api.Point {
	var out []api.Point
	for h := first; !done[h]; {
		done[h] = true
		next := nextSide(ends, ends[h], h.step)
		if next.step != h.step {
			out = append(out, next.at)
		}
		h = next
	}
	return out
}

// nextSide turns to the left first, which matters only where two squares touch at a corner alone: elsewhere a single side goes on.
func nextSide(ends map[heading]api.Point, at, step api.Point) heading {
	left := api.Point{X: -step.Y, Y: step.X}
	right := api.Point{X: step.Y, Y: -step.X}
	for _, s := range []api.Point{left, step} {
		if _, ok := ends[heading{at, s}]; ok {
			return heading{at, s}
		}
	}
	return heading{at, right}
}

// fromLeast returns a closed row of points that begins with the least one, by Y, then X.
func fromLeast(row []api.Point) []api.Point {
	least := 0
	for i, p := range row {
		if comparePoints(p, row[least]) < 0 {
			least = i
		}
	}
	return slices.Concat(row[least:], row[:least])
}

// Filled returns the squares that an odd number of some closed rows of points goes around.
func Filled(l [][]api.Point) ([]api.Rect, api.Fault) {
	if f := checkRows(l); f != api.OK {
		return nil, f
	}
	var rightOf []api.Rect // what lies to the right of each vertical side
	for _, row := range l {
		for i, p := range row {
			if q := row[(i+1)%len(row)]; p.X == q.X {
				rightOf = append(rightOf, api.Rect{X0: p.X, Y0: min(p.Y, q.Y), X1: api.MaxAt, Y1: max(p.Y, q.Y)})
			}
		}
	}
	return combine(rightOf, nil, func(sides, _ int) bool { return sides%2 == 1 })
}

func checkRows(l [][]api.Point) api.Fault {
	n := 0
	for _, row := range l {
		n += len(row)
	}
	if n > api.MaxCorner {
		return api.ErrLarge
	}
	for _, row := range l {
		if f := checkRow(row); f != api.OK {
			return f
		}
	}
	return api.OK
}

func checkRow(row []api.Point) api.Fault {
	if len(row) < 4 {
		return api.ErrForm
	}
	for _, p := range row {
		if !pointInRange(p) {
			return api.ErrRange
		}
	}
	for i, p := range row {
		q := row[(i+1)%len(row)]
		if (p.X == q.X) == (p.Y == q.Y) {
			return api.ErrForm
		}
	}
	return api.OK
}
