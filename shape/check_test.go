package shape

import (
	"math"
	"math/rand/v2"
	"slices"
	"testing"

	"etchhouse/api"
)

func TestCheckRects(t *testing.T) {
	const m = api.MaxAt
	for _, c := range []struct {
		what string
		l    []api.Rect
		want api.Fault
	}{
		{"nil", nil, api.OK},
		{"empty", []api.Rect{}, api.OK},
		{"over one another", []api.Rect{rect(0, 0, 2, 2), rect(1, 1, 3, 3), rect(0, 0, 2, 2)}, api.OK},
		{"as large as can be", []api.Rect{rect(-m, -m, m, m)}, api.OK},
		{"as many as can be", column(0, api.MaxRects), api.OK},
		{"too many", column(0, api.MaxRects+1), api.ErrLarge},
		{"X0 too small", []api.Rect{rect(-m-1, 0, 1, 1)}, api.ErrRange},
		{"Y0 too small", []api.Rect{rect(0, -m-1, 1, 1)}, api.ErrRange},
		{"X1 too large", []api.Rect{rect(0, 0, m+1, 1)}, api.ErrRange},
		{"Y1 too large", []api.Rect{rect(0, 0, 1, m+1)}, api.ErrRange},
		{"X0 too large", []api.Rect{rect(m+1, 0, 1, 1)}, api.ErrRange},
		{"Y1 too small", []api.Rect{rect(0, 0, 1, -m-1)}, api.ErrRange},
		{"the least and the greatest integer", []api.Rect{rect(math.MinInt, math.MinInt, math.MaxInt, math.MaxInt)}, api.ErrRange},
		{"no width", []api.Rect{rect(1, 0, 1, 1)}, api.ErrZero},
		{"no height", []api.Rect{rect(0, 1, 1, 1)}, api.ErrZero},
		{"X1 less than X0", []api.Rect{rect(2, 0, 1, 1)}, api.ErrZero},
		{"Y1 less than Y0", []api.Rect{rect(0, 2, 1, 1)}, api.ErrZero},
		{"range before zero in one", []api.Rect{rect(m+1, 0, m+1, 1)}, api.ErrRange},
		{"the first one has an error first", []api.Rect{rect(0, 0, 0, 1), rect(m+1, 0, 1, 1)}, api.ErrZero},
		{"large before all others", slices.Repeat([]api.Rect{rect(m+1, 0, 0, 0)}, api.MaxRects+1), api.ErrLarge},
	} {
		if f := CheckRects(c.l); f != c.want {
			t.Errorf("%s: fault %d, want %d", c.what, f, c.want)
		}
	}
}

func TestCheckRegion(t *testing.T) {
	const m = api.MaxAt
	for _, c := range []struct {
		what string
		r    []api.Rect
		want api.Fault
	}{
		{"nil", nil, api.OK},
		{"one", []api.Rect{rect(-m, -m, m, m)}, api.OK},
		{"two bands that touch", []api.Rect{rect(0, 0, 2, 1), rect(0, 1, 1, 2)}, api.OK},
		{"two bands with the same stretches that do not touch", []api.Rect{rect(0, 0, 2, 1), rect(0, 2, 2, 3)}, api.OK},
		{"the same number of other stretches", []api.Rect{rect(0, 0, 1, 1), rect(2, 0, 3, 1), rect(0, 1, 1, 2), rect(2, 1, 4, 2)}, api.OK},
		{"other stretches by X0", []api.Rect{rect(0, 0, 2, 1), rect(1, 1, 2, 2)}, api.OK},
		{"as many as can be", column(0, api.MaxRects), api.OK},
		{"twice the same", []api.Rect{rect(0, 0, 1, 1), rect(0, 0, 1, 1)}, api.ErrOrder},
		{"X0 not in order", []api.Rect{rect(2, 0, 3, 1), rect(0, 0, 1, 1)}, api.ErrOrder},
		{"Y0 not in order", []api.Rect{rect(0, 2, 1, 3), rect(4, 0, 5, 1)}, api.ErrOrder},
		{"stretches touch", []api.Rect{rect(0, 0, 1, 1), rect(1, 0, 2, 1)}, api.ErrForm},
		{"stretches lie over one another", []api.Rect{rect(0, 0, 2, 1), rect(1, 0, 3, 1)}, api.ErrForm},
		{"a band with two heights", []api.Rect{rect(0, 0, 1, 1), rect(2, 0, 3, 2)}, api.ErrForm},
		{"the same stretches one over the other", []api.Rect{rect(0, 0, 1, 1), rect(0, 1, 1, 2)}, api.ErrForm},
		{"the same two stretches one over the other", []api.Rect{rect(0, 0, 1, 1), rect(2, 0, 3, 1), rect(0, 1, 1, 2), rect(2, 1, 3, 2)}, api.ErrForm},
		{"bands lie over one another", []api.Rect{rect(0, 0, 1, 2), rect(5, 1, 6, 3)}, api.ErrForm},
		{"bands not cut", []api.Rect{rect(0, 0, 1, 3), rect(2, 1, 3, 2)}, api.ErrForm},
		{"CheckRects' before order", []api.Rect{rect(0, 2, 1, 3), rect(0, 0, 1, 1), rect(0, 0, 0, 1)}, api.ErrZero},
		{"order before form", []api.Rect{rect(0, 0, 1, 1), rect(1, 0, 2, 1), rect(0, 0, 1, 1)}, api.ErrOrder},
	} {
		if f := CheckRegion(c.r); f != c.want {
			t.Errorf("%s: fault %d, want %d", c.what, f, c.want)
		}
	}
	for _, c := range bad() {
		if f := CheckRegion(c.r); f != c.f {
			t.Errorf("%s: fault %d, want %d", c.what, f, c.f)
		}
	}
}

// A region is accepted if and only if it is that of the model.
func TestCheckRegionOfRandomRects(t *testing.T) {
	regions := 0
	tried(t, 3000, func(r *rand.Rand) {
		l := randomRects(r, 3, 3)
		slices.SortFunc(l, func(a, b api.Rect) int { return byYX(point(a.X0, a.Y0), point(b.X0, b.Y0)) })
		is := slices.Equal(l, squaresOf(l).region())
		if is {
			regions++
		}
		if f := CheckRegion(l); CheckRects(l) == api.OK && (f == api.OK) != is {
			t.Errorf("%v: fault %d, a region: %v", l, f, is)
		}
	})
	if regions < 500 {
		t.Errorf("only %d regions", regions)
	}
}

func TestRegion(t *testing.T) {
	got, f := Region([]api.Rect{rect(0, 0, 2, 1), rect(0, 0, 1, 2)})
	wantRegion(t, "the example", got, f, []api.Rect{rect(0, 0, 2, 1), rect(0, 1, 1, 2)})
	got, f = Region(nil)
	wantRegion(t, "nothing", got, f, nil)
	got, f = Region([]api.Rect{rect(0, 0, 1, 1), rect(1, 0, 2, 1), rect(0, 1, 2, 2)})
	wantRegion(t, "joined", got, f, []api.Rect{rect(0, 0, 2, 2)})
	got, f = Region([]api.Rect{rect(0, 0, 3, 3), rect(1, 1, 2, 2)})
	wantRegion(t, "one within another", got, f, []api.Rect{rect(0, 0, 3, 3)})
	got, f = Region([]api.Rect{rect(0, 0, 1, 4), rect(2, 1, 3, 2)})
	wantRegion(t, "cut at the height of something apart", got, f, []api.Rect{rect(0, 0, 1, 1), rect(0, 1, 1, 2), rect(2, 1, 3, 2), rect(0, 2, 1, 4)})
}

func TestRegionOfRandomRects(t *testing.T) {
	tried(t, 500, func(r *rand.Rand) {
		l := slices.DeleteFunc(randomRects(r, 15, 6), func(x api.Rect) bool { return CheckRects([]api.Rect{x}) != api.OK })
		got, f := Region(l)
		wantRegion(t, "Region", got, f, squaresOf(l).region())
		again, f := Region(got)
		wantRegion(t, "Region of a region", again, f, got)
	})
}

func TestRegionFaults(t *testing.T) {
	got, f := Region(column(0, api.MaxRects+1))
	wantFault(t, "too many", got, f, api.ErrLarge)
	got, f = Region([]api.Rect{rect(0, 0, 1, api.MaxAt+1)})
	wantFault(t, "out of range", got, f, api.ErrRange)
	got, f = Region([]api.Rect{rect(0, 0, 1, 1), rect(3, 3, 3, 4)})
	wantFault(t, "no width", got, f, api.ErrZero)
}

// stairs are so many rectangles with as many cuts through each: together they have about many * many rectangles.
func stairs(many int) []api.Rect {
	var out []api.Rect
	for i := range many {
		out = append(out, rect(2*i, i, 2*i+1, many+i))
	}
	return out
}

func TestRegionAtTheBound(t *testing.T) {
	got, f := Region(column(0, api.MaxRects))
	wantRegion(t, "as many as can be", got, f, column(0, api.MaxRects))
	// 44 stairs have 1 + 2 + .. + 44 + 43 + .. + 1 = 1936 rectangles, 45 have 2025.
	if got, f := Region(stairs(44)); f != api.OK || len(got) != 44*44 {
		t.Errorf("44 stairs: %d rectangles, fault %d", len(got), f)
	}
	got, f = Region(stairs(45))
	wantFault(t, "45 stairs", got, f, api.ErrLarge)
	// The same with 64 rectangles more is just at the bound.
	at := append(stairs(44), column(-5, 164)[100:]...)
	if got, f := Region(at); f != api.OK || len(got) != api.MaxRects {
		t.Errorf("at the bound: %d rectangles, fault %d", len(got), f)
	}
	got, f = Region(append(at, rect(-5, 1000, -4, 1001)))
	wantFault(t, "one more than the bound", got, f, api.ErrLarge)
}
