package shape

import (
	"math"
	"math/rand/v2"
	"slices"
	"testing"

	"etchhouse/api"
)

func wantRows(t *testing.T, what string, got [][]api.Point, f api.Fault, want ...[]api.Point) {
	t.Helper()
	if f != api.OK || !slices.EqualFunc(got, want, slices.Equal) {
		t.Errorf("%s: %v, fault %d, want %v", what, got, f, want)
	}
}

// points makes a row of points of its numbers.
func points(l ...int) []api.Point {
	var out []api.Point
	for i := 0; i < len(l); i += 2 {
		out = append(out, point(l[i], l[i+1]))
	}
	return out
}

func TestOutlines(t *testing.T) {
	got, f := Outlines([]api.Rect{rect(0, 0, 2, 1), rect(0, 1, 1, 2)})
	wantRows(t, "the example", got, f, points(0, 0, 2, 0, 2, 1, 1, 1, 1, 2, 0, 2))
	got, f = Outlines(nil)
	wantRows(t, "nothing", got, f)
	got, f = Outlines(plateWithout(t, rect(0, 0, 5, 5), rect(1, 1, 2, 2), rect(3, 3, 4, 4)))
	wantRows(t, "holes run to the right", got, f,
		points(0, 0, 5, 0, 5, 5, 0, 5), points(1, 1, 1, 2, 2, 2, 2, 1), points(3, 3, 3, 4, 4, 4, 4, 3))
	got, f = Outlines(region(t, rect(5, 0, 6, 4), rect(0, 1, 1, 2)))
	wantRows(t, "no corner where something apart has cut", got, f, points(5, 0, 6, 0, 6, 4, 5, 4), points(0, 1, 1, 1, 1, 2, 0, 2))
	got, f = Outlines(region(t, rect(0, 0, 5, 1), rect(1, 1, 2, 3), rect(3, 1, 4, 2)))
	wantRows(t, "two on one", got, f, points(0, 0, 5, 0, 5, 1, 4, 1, 4, 2, 3, 2, 3, 1, 2, 1, 2, 3, 1, 3, 1, 1, 0, 1))
}

// Where squares touch at a corner alone, a border turns to the left.
func TestOutlinesAtCorners(t *testing.T) {
	got, f := Outlines([]api.Rect{rect(0, 0, 1, 1), rect(1, 1, 2, 2)})
	wantRows(t, "up to the right", got, f, points(0, 0, 1, 0, 1, 1, 0, 1), points(1, 1, 2, 1, 2, 2, 1, 2))
	got, f = Outlines([]api.Rect{rect(1, 0, 2, 1), rect(0, 1, 1, 2)})
	wantRows(t, "up to the left", got, f, points(1, 0, 2, 0, 2, 1, 1, 1), points(0, 1, 1, 1, 1, 2, 0, 2))
	got, f = Outlines(plateWithout(t, rect(0, 0, 4, 4), rect(1, 1, 2, 2), rect(2, 2, 3, 3)))
	wantRows(t, "two holes, up to the right", got, f,
		points(0, 0, 4, 0, 4, 4, 0, 4), points(1, 1, 1, 2, 2, 2, 2, 3, 3, 3, 3, 2, 2, 2, 2, 1))
	got, f = Outlines(plateWithout(t, rect(0, 0, 4, 4), rect(2, 1, 3, 2), rect(1, 2, 2, 3)))
	wantRows(t, "two holes, up to the left", got, f,
		points(0, 0, 4, 0, 4, 4, 0, 4), points(2, 1, 2, 2, 1, 2, 1, 3, 2, 3, 2, 2, 3, 2, 3, 1))
	got, f = Outlines([]api.Rect{rect(1, 0, 2, 1), rect(0, 1, 1, 2), rect(2, 1, 3, 2), rect(0, 2, 3, 3)})
	wantRows(t, "a piece that comes to a corner of its own", got, f,
		points(1, 0, 2, 0, 2, 1, 1, 1), points(0, 1, 1, 1, 1, 2, 2, 2, 2, 1, 3, 1, 3, 3, 0, 3))
}

func TestRandomOutlines(t *testing.T) {
	tried(t, 600, func(r *rand.Rand) {
		a := randomRegion(r, 5)
		got, f := Outlines(a)
		wantRows(t, "Outlines", got, f, outlinesModel(squaresOf(a))...)
		back, f := Filled(got)
		wantRegion(t, "Filled of Outlines", back, f, a)
	})
}

type step struct{ at, by api.Point }

// outlinesModel goes along the sides of single squares.
func outlinesModel(s squares) [][]api.Point {
	left := func(p api.Point) api.Point { return point(-p.Y, p.X) }
	sides := map[step]bool{}
	for p := range s {
		corners := []api.Point{p, point(p.X+1, p.Y), point(p.X+1, p.Y+1), point(p.X, p.Y+1)}
		for i, by := range points(1, 0, 0, 1, -1, 0, 0, -1) {
			if outer := point(p.X+by.Y, p.Y-by.X); !s[outer] {
				sides[step{corners[i], by}] = true
			}
		}
	}
	var out [][]api.Point
	for len(sides) > 0 {
		var first step
		for x := range sides {
			if first.by == (api.Point{}) || byYX(x.at, first.at) < 0 {
				first = x
			}
		}
		var row []api.Point
		for x := first; ; {
			delete(sides, x)
			to := point(x.at.X+x.by.X, x.at.Y+x.by.Y)
			var next step
			for _, by := range []api.Point{left(x.by), x.by, left(left(left(x.by)))} {
				if n := (step{to, by}); sides[n] || n == first {
					next = n
					break
				}
			}
			if next.by != x.by {
				row = append(row, to)
			}
			if x = next; x == first {
				break
			}
		}
		i := slices.Index(row, slices.MinFunc(row, byYX))
		out = append(out, slices.Concat(row[i:], row[:i]))
	}
	slices.SortFunc(out, func(a, b []api.Point) int { return byYX(a[0], b[0]) })
	return out
}

func TestOutlineFaults(t *testing.T) {
	for _, c := range bad() {
		got, f := Outlines(c.r)
		wantFault(t, c.what, got, f, c.f)
	}
	got, f := Outlines(column(0, api.MaxCorner/4))
	if f != api.OK || len(got) != api.MaxCorner/4 {
		t.Errorf("as many corners as can be: %d rows, fault %d", len(got), f)
	}
	got, f = Outlines(column(0, api.MaxCorner/4+1))
	wantFault(t, "too many corners", got, f, api.ErrLarge)
}

func TestFilled(t *testing.T) {
	outer, inner := points(0, 0, 5, 0, 5, 5, 0, 5), points(1, 1, 4, 1, 4, 4, 1, 4)
	ring := []api.Rect{rect(0, 0, 5, 1), rect(0, 1, 1, 4), rect(4, 1, 5, 4), rect(0, 4, 5, 5)}
	got, f := Filled([][]api.Point{outer, inner})
	wantRegion(t, "one within another", got, f, ring)
	backwards := slices.Clone(inner)
	slices.Reverse(backwards)
	got, f = Filled([][]api.Point{backwards, outer})
	wantRegion(t, "in another order and direction", got, f, ring)
	got, f = Filled([][]api.Point{outer, outer})
	wantRegion(t, "twice", got, f, nil)
	got, f = Filled([][]api.Point{outer, outer, outer})
	wantRegion(t, "three times", got, f, []api.Rect{rect(0, 0, 5, 5)})
	got, f = Filled([][]api.Point{points(0, 0, 3, 0, 5, 0, 5, 5, 0, 5, 0, 2)})
	wantRegion(t, "points that are no corners", got, f, []api.Rect{rect(0, 0, 5, 5)})
	got, f = Filled([][]api.Point{points(0, 0, 2, 0, 2, 4, 4, 4, 4, 2, 0, 2)})
	wantRegion(t, "a row that crosses itself", got, f, []api.Rect{rect(0, 0, 2, 2), rect(2, 2, 4, 4)})
	got, f = Filled([][]api.Point{slices.Concat(outer, outer)})
	wantRegion(t, "a row that goes around twice", got, f, nil)
	got, f = Filled([][]api.Point{points(0, 0, 5, 0, 0, 0, 5, 0)})
	wantRegion(t, "there and back", got, f, nil)
	got, f = Filled(nil)
	wantRegion(t, "nothing", got, f, nil)
	const m = api.MaxAt
	got, f = Filled([][]api.Point{points(-m, -m, m, -m, m, m, -m, m)})
	wantRegion(t, "all there is", got, f, []api.Rect{rect(-m, -m, m, m)})
}

func TestFilledOfRandomRows(t *testing.T) {
	tried(t, 500, func(r *rand.Rand) {
		var l [][]api.Point
		for range r.IntN(3) {
			l = append(l, randomRow(r))
		}
		got, f := Filled(l)
		wantRegion(t, "Filled", got, f, filledModel(l).region())
	})
}

// randomRow goes along X and Y by turns, so that it can cross itself.
func randomRow(r *rand.Rand) []api.Point {
	xs, ys := randomCircle(r), randomCircle(r)
	n := min(len(xs), len(ys))
	if n < 2 || xs[0] == xs[n-1] || ys[0] == ys[n-1] {
		return randomRow(r)
	}
	var out []api.Point
	for i := range n {
		out = append(out, point(xs[i], ys[i]), point(xs[(i+1)%n], ys[i]))
	}
	return out
}

// randomCircle returns numbers from -5 to 5, each another one than the one before it.
func randomCircle(r *rand.Rand) []int {
	out := []int{r.IntN(11) - 5}
	for range r.IntN(6) {
		last := out[len(out)-1]
		out = append(out, (last+5+1+r.IntN(10))%11-5)
	}
	return out
}

// filledModel counts the sides that lie to the left of each square.
func filledModel(l [][]api.Point) squares {
	return within(12, func(s api.Point) bool {
		n := 0
		for _, row := range l {
			for i, p := range row {
				q := row[(i+1)%len(row)]
				if p.X == q.X && p.X <= s.X && min(p.Y, q.Y) <= s.Y && s.Y < max(p.Y, q.Y) {
					n++
				}
			}
		}
		return n%2 == 1
	})
}

func TestFilledFaults(t *testing.T) {
	const m = api.MaxAt
	square := points(0, 0, 5, 0, 5, 5, 0, 5)
	many := slices.Repeat([][]api.Point{square}, api.MaxCorner/4)
	for _, c := range []struct {
		what string
		l    [][]api.Point
		want api.Fault
	}{
		{"an empty row", [][]api.Point{{}}, api.ErrForm},
		{"three points", [][]api.Point{square[:3]}, api.ErrForm},
		{"three points before the range", [][]api.Point{points(m+1, 0, 0, 0, 0, 0)}, api.ErrForm},
		{"X out of range", [][]api.Point{points(0, 0, m+1, 0, m+1, 5, 0, 5)}, api.ErrRange},
		{"Y out of range", [][]api.Point{points(0, -m-1, 5, -m-1, 5, 5, 0, 5)}, api.ErrRange},
		{"far out of range", [][]api.Point{points(math.MinInt, 0, 5, 0, 5, 5, math.MinInt, 5)}, api.ErrRange},
		{"the range of all points before the sides", [][]api.Point{points(0, 0, 1, 1, m+1, 1, 0, 1)}, api.ErrRange},
		{"a side that is not along an axis", [][]api.Point{points(0, 0, 5, 0, 6, 5, 0, 5)}, api.ErrForm},
		{"the last side is not along an axis", [][]api.Point{points(0, 0, 5, 0, 5, 5, 1, 5)}, api.ErrForm},
		{"a side without a length", [][]api.Point{points(0, 0, 5, 0, 5, 0, 5, 5, 0, 5)}, api.ErrForm},
		{"the last side without a length", [][]api.Point{points(0, 0, 5, 0, 5, 5, 0, 5, 0, 0)}, api.ErrForm},
		{"the first row first", [][]api.Point{points(0, 0, 5, 0, 6, 5, 0, 5), points(m+1, 0, 0, 0, 0, 0, 0, 0)}, api.ErrForm},
		{"the second row", [][]api.Point{square, points(m+1, 0, 0, 0, 0, 0, 0, 0)}, api.ErrRange},
		{"too many points", append(slices.Clone(many), square[:1]), api.ErrLarge},
		{"too many points in one row", [][]api.Point{make([]api.Point, api.MaxCorner+1)}, api.ErrLarge},
	} {
		got, f := Filled(c.l)
		wantFault(t, c.what, got, f, c.want)
	}
	if _, f := Filled(many); f != api.OK {
		t.Errorf("as many points as can be: fault %d", f)
	}
}

func TestFilledTooLarge(t *testing.T) {
	outlinesOf := func(l []api.Rect) [][]api.Point {
		var out [][]api.Point
		for _, r := range l {
			out = append(out, points(r.X0, r.Y0, r.X1, r.Y0, r.X1, r.Y1, r.X0, r.Y1))
		}
		return out
	}
	if got, f := Filled(outlinesOf(stairs(44))); f != api.OK || len(got) != 44*44 {
		t.Errorf("44 stairs: %d rectangles, fault %d", len(got), f)
	}
	got, f := Filled(outlinesOf(stairs(45)))
	wantFault(t, "45 stairs", got, f, api.ErrLarge)
}
