package shape

import (
	"math"
	"slices"
	"testing"

	"etchhouse/api"
)

// called calls every function with regions, rows or turns, and returns all lists of rectangles and points of its results, in order.
func called(t *testing.T, a, b []api.Rect, l [][]api.Rect, rows [][]api.Point) ([][]api.Rect, [][]api.Point) {
	t.Helper()
	var out [][]api.Rect
	one := func(r []api.Rect, f api.Fault) {
		if f != api.OK {
			t.Errorf("fault %d", f)
		}
		out = append(out, r)
	}
	many := func(l [][]api.Rect, f api.Fault) {
		if f != api.OK {
			t.Errorf("fault %d", f)
		}
		out = append(out, l...)
	}
	one(Region(a))
	one(Union(a, b))
	one(Union(a, nil))
	one(Both(a, b))
	one(Both(a, a))
	one(Minus(a, b))
	one(Minus(a, nil))
	for _, f := range []grower{Grow, Shrink, Opened, Closed} {
		one(f(a, 0))
		one(f(a, 1))
	}
	many(Pieces(a))
	many(Holes(a))
	one(Filled(rows))
	one(TurnedRegion(a, api.Turn{}))
	one(TurnedRegion(a, api.Turn{Flip: true, Quarters: 1}))
	outlines, f := Outlines(a)
	if f != api.OK {
		t.Errorf("Outlines: fault %d", f)
	}
	CheckRects(a)
	CheckRegion(a)
	Area(a)
	Has(a, api.Point{})
	Bounds(a)
	Gaps(l, 9)
	return out, outlines
}

// roomy returns a copy with spare capacity in which something stands.
func roomy[E any](l []E, spare E) []E {
	out := slices.Clone(l)
	for range 4 {
		out = append(out, spare)
	}
	return out[:len(l)]
}

// Q2: arguments stay, and with them what stands in their spare capacity; results are new memory.
func TestArgumentsAndResults(t *testing.T) {
	const spare = 77
	ring := plateWithout(t, rect(0, 0, 9, 9), rect(2, 2, 3, 3), rect(5, 5, 8, 8))
	ring = region(t, append(ring, rect(20, 0, 21, 3))...)
	a := roomy(ring, rect(spare, spare, spare, spare))
	b := roomy([]api.Rect{rect(4, 4, 30, 30)}, rect(spare, spare, spare, spare))
	row := roomy(points(0, 0, 5, 0, 5, 5, 0, 5), point(spare, spare))
	l := roomy([][]api.Rect{{rect(50, 50, 51, 51)}, a}, []api.Rect{rect(spare, spare, spare, spare)})
	rows := roomy([][]api.Point{row, row[:4]}, points(spare, spare))
	whole := [][]api.Rect{slices.Clone(a[:cap(a)]), slices.Clone(b[:cap(b)])}
	wholeRow := slices.Clone(row[:cap(row)])

	got, outlines := called(t, a, b, l, rows)
	want, wantOutlines := called(t, slices.Clone(a), slices.Clone(b), l, rows)
	for i := range got { // whoever shares memory changes something else, too
		for j := range got[i] {
			got[i][j] = rect(i, j, -1, -1)
		}
		got[i] = append(got[i], rect(i, -2, -2, -2))
	}
	for i := range outlines {
		for j := range outlines[i] {
			outlines[i][j] = point(i, j)
		}
		outlines[i] = append(outlines[i], point(i, -2))
	}
	for i := range got {
		for j := range got[i] {
			if x := got[i][j]; x != rect(i, j, -1, -1) && x != rect(i, -2, -2, -2) {
				t.Errorf("result %d shares memory", i)
			}
		}
	}
	for i := range outlines {
		for j := range outlines[i] {
			if p := outlines[i][j]; p != point(i, j) && p != point(i, -2) {
				t.Errorf("outline %d shares memory", i)
			}
		}
	}
	if !slices.Equal(a[:cap(a)], whole[0]) || !slices.Equal(b[:cap(b)], whole[1]) || !slices.Equal(row[:cap(row)], wholeRow) {
		t.Errorf("an argument was changed")
	}
	again, againOutlines := called(t, a, b, l, rows)
	if !slices.EqualFunc(again, want, slices.Equal) || !slices.EqualFunc(againOutlines, wantOutlines, slices.Equal) {
		t.Errorf("another result for the same arguments")
	}
}

// Q1: there is a result for the strangest arguments.
func TestStrangeArguments(t *testing.T) {
	const low, high = math.MinInt, math.MaxInt
	for _, r := range [][]api.Rect{nil, {}, {{}}, {rect(low, low, high, high)}, {rect(high, high, low, low)}, make([]api.Rect, 10000)} {
		for _, n := range []int{low, -1, 0, 1, high} {
			for _, f := range growers() {
				f(r, n)
			}
			Gaps([][]api.Rect{r, r}, n)
			Has(r, point(n, low))
			TurnedRegion(r, api.Turn{Quarters: n, At: point(low, high)})
			Turned(point(low, high), api.Turn{Quarters: n, At: point(n, n)})
			Then(api.Turn{Quarters: n}, api.Turn{Quarters: n, At: point(low, n)})
			Back(api.Turn{Quarters: n, At: point(n, low)})
			CheckTurn(api.Turn{Quarters: n})
		}
		CheckRects(r)
		CheckRegion(r)
		Region(r)
		Union(r, r)
		Both(r, r)
		Minus(r, r)
		Area(r)
		Bounds(r)
		Pieces(r)
		Holes(r)
		Outlines(r)
	}
	for _, l := range [][][]api.Point{nil, {}, {nil}, {{}, nil}, {make([]api.Point, 4)}, {points(low, low, high, low, high, high, low, high)}} {
		Filled(l)
	}
}
