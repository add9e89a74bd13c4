package shape

import (
	"math"
	"math/rand/v2"
	"slices"
	"testing"

	"etchhouse/api"
)

func wantGaps(t *testing.T, what string, got []api.Gap, f api.Fault, want ...api.Gap) {
	t.Helper()
	if f != api.OK || !slices.Equal(got, want) {
		t.Errorf("%s: %v, fault %d, want %v", what, got, f, want)
	}
}

func TestGaps(t *testing.T) {
	a, b := []api.Rect{rect(0, 0, 3, 3)}, []api.Rect{rect(5, 1, 6, 9)}
	got, f := Gaps([][]api.Rect{a, b}, 3)
	wantGaps(t, "side by side", got, f, api.Gap{A: 0, B: 1, Distance: 2, From: point(2, 0), To: point(5, 1)})
	got, f = Gaps([][]api.Rect{b, a}, 3)
	wantGaps(t, "the other way", got, f, api.Gap{A: 0, B: 1, Distance: 2, From: point(5, 1), To: point(2, 0)})
	got, f = Gaps([][]api.Rect{a, b}, 2)
	wantGaps(t, "not less than the number", got, f)
	got, f = Gaps([][]api.Rect{a, nil, b, {}}, 100)
	wantGaps(t, "with empty ones", got, f, api.Gap{A: 0, B: 2, Distance: 2, From: point(2, 0), To: point(5, 1)})
	got, f = Gaps(nil, 5)
	wantGaps(t, "of nothing", got, f)
}

func TestGapsThatTouch(t *testing.T) {
	a := []api.Rect{rect(0, 0, 2, 2)}
	for _, c := range []struct {
		what     string
		b        api.Rect
		from, to api.Point
	}{
		{"at a side", rect(2, 1, 3, 5), point(1, 0), point(2, 1)},
		{"at a corner", rect(2, 2, 3, 3), point(1, 1), point(2, 2)},
		{"at the other corner", rect(-1, 2, 0, 3), point(0, 1), point(-1, 2)},
		{"below", rect(0, -3, 9, 0), point(0, 0), point(0, -1)},
	} {
		l := [][]api.Rect{a, {c.b}}
		got, f := Gaps(l, 1)
		wantGaps(t, c.what, got, f, api.Gap{B: 1, From: c.from, To: c.to})
		got, f = Gaps(l, 0)
		wantGaps(t, c.what+", below 0", got, f)
	}
}

func TestGapsOrder(t *testing.T) {
	l := [][]api.Rect{{rect(0, 0, 1, 1)}, {rect(4, 0, 5, 1)}, {rect(2, 0, 3, 1)}, {rect(0, 100, 1, 101)}}
	got, f := Gaps(l, 10)
	wantGaps(t, "by (A, B)", got, f,
		api.Gap{A: 0, B: 1, Distance: 3, From: point(0, 0), To: point(4, 0)},
		api.Gap{A: 0, B: 2, Distance: 1, From: point(0, 0), To: point(2, 0)},
		api.Gap{A: 1, B: 2, Distance: 1, From: point(4, 0), To: point(2, 0)})
}

func TestRandomGaps(t *testing.T) {
	tried(t, 300, func(r *rand.Rand) {
		left := randomRegion(r, 5)
		var l [][]api.Rect
		for range 3 {
			x := r.IntN(8) - 4
			part, _ := Both(left, []api.Rect{rect(-9, -9, x, 9)})
			rest, _ := Minus(left, part)
			l, left = append(l, part), rest
		}
		below := r.IntN(6)
		got, f := Gaps(l, below)
		wantGaps(t, "Gaps", got, f, gapsModel(l, below)...)
	})
}

func gapsModel(l [][]api.Rect, below int) []api.Gap {
	var out []api.Gap
	for i := range l {
		for j := i + 1; j < len(l); j++ {
			best, found := api.Gap{}, false
			for _, p := range squaresOf(l[i]).sorted() {
				for _, q := range squaresOf(l[j]).sorted() {
					if d := distance(p, q) - 1; !found || d < best.Distance {
						best, found = api.Gap{A: i, B: j, Distance: d, From: p, To: q}, true
					}
				}
			}
			if found && best.Distance < below {
				out = append(out, best)
			}
		}
	}
	return out
}

func TestGapFaults(t *testing.T) {
	good := []api.Rect{rect(0, 0, 1, 1)}
	for _, c := range bad() {
		got, f := Gaps([][]api.Rect{good, c.r}, -1)
		wantFault(t, c.what, got, f, c.f)
	}
	got, f := Gaps([][]api.Rect{{rect(0, 0, 0, 1)}, {rect(0, 0, api.MaxAt+1, 1)}}, 5)
	wantFault(t, "the first one first", got, f, api.ErrZero)
	for _, below := range []int{-1, api.MaxGrow + 1, math.MinInt, math.MaxInt} {
		got, f = Gaps([][]api.Rect{good, good}, below)
		wantFault(t, "below", got, f, api.ErrRange)
	}
	for _, below := range []int{0, api.MaxGrow} {
		got, f = Gaps([][]api.Rect{good, {rect(2, 0, 3, 1)}, good}, below)
		wantFault(t, "a square in common", got, f, api.ErrClash)
	}
	got, f = Gaps([][]api.Rect{{rect(0, 0, 9, 9)}, {rect(4, 4, 5, 5)}}, 1)
	wantFault(t, "one within another", got, f, api.ErrClash)
}

func TestGapsAtTheBound(t *testing.T) {
	got, f := Gaps(make([][]api.Rect, api.MaxRects), 5)
	wantGaps(t, "as many as can be", got, f)
	got, f = Gaps(make([][]api.Rect, api.MaxRects+1), 5)
	wantFault(t, "too many regions", got, f, api.ErrLarge)
	half := column(0, api.MaxRects/2)
	got, f = Gaps([][]api.Rect{half, column(9, api.MaxRects/2)}, 9)
	wantGaps(t, "as many rectangles as can be", got, f, api.Gap{B: 1, Distance: 8, To: point(9, 0)})
	got, f = Gaps([][]api.Rect{half, half, {rect(0, 0, 0, 0)}}, 5)
	wantFault(t, "too many rectangles, before all others", got, f, api.ErrLarge)
	got, f = Gaps([][]api.Rect{{rect(0, 0, 1, 1)}, {rect(api.MaxGrow, 0, api.MaxGrow+1, 1)}}, api.MaxGrow)
	wantGaps(t, "as far as can be", got, f, api.Gap{B: 1, Distance: api.MaxGrow - 1, To: point(api.MaxGrow, 0)})
}
