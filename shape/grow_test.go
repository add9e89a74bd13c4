package shape

import (
	"math"
	"math/rand/v2"
	"testing"

	"etchhouse/api"
)

type grower = func(r []api.Rect, n int) ([]api.Rect, api.Fault)

func growers() map[string]grower {
	return map[string]grower{"Grow": Grow, "Shrink": Shrink, "Opened": Opened, "Closed": Closed}
}

func TestGrow(t *testing.T) {
	r := []api.Rect{rect(0, 0, 2, 1), rect(0, 1, 1, 2)}
	got, f := Grow(r, 1)
	wantRegion(t, "the example", got, f, []api.Rect{rect(-1, -1, 3, 2), rect(-1, 2, 2, 3)})
	got, f = Shrink(got, 1)
	wantRegion(t, "and back", got, f, r)
	got, f = Shrink([]api.Rect{rect(0, 0, 5, 4)}, 2)
	wantRegion(t, "nothing is left", got, f, nil)
	got, f = Shrink([]api.Rect{rect(0, 0, 5, 5)}, 2)
	wantRegion(t, "a square is left", got, f, []api.Rect{rect(2, 2, 3, 3)})
	for name, f := range growers() {
		got, fault := f(r, 0)
		wantRegion(t, name+" by 0", got, fault, r)
		got, fault = f(nil, api.MaxGrow)
		wantRegion(t, name+" of nothing", got, fault, nil)
	}
}

func TestOpenedAndClosed(t *testing.T) {
	// A plate with a thin tongue, and one with a thin slot.
	tongue := region(t, rect(0, 0, 5, 5), rect(5, 2, 9, 3))
	got, f := Opened(tongue, 1)
	wantRegion(t, "the tongue is gone", got, f, []api.Rect{rect(0, 0, 5, 5)})
	slot, f := Minus([]api.Rect{rect(0, 0, 5, 9)}, []api.Rect{rect(2, 3, 3, 6)})
	if f != api.OK {
		t.Fatalf("Minus: fault %d", f)
	}
	got, f = Closed(slot, 1)
	wantRegion(t, "the slot is gone", got, f, []api.Rect{rect(0, 0, 5, 9)})
}

func TestRandomGrowing(t *testing.T) {
	tried(t, 300, func(r *rand.Rand) {
		a, n, m := randomRegion(r, 4), r.IntN(4), r.IntN(3)
		grown, f := Grow(a, n)
		wantRegion(t, "Grow", grown, f, grownModel(squaresOf(a), n).region())
		shrunk, f := Shrink(a, n)
		wantRegion(t, "Shrink", shrunk, f, shrunkModel(squaresOf(a), n).region())
		opened, f := Opened(a, n)
		wantRegion(t, "Opened", opened, f, grownModel(squaresOf(shrunk), n).region())
		closed, f := Closed(a, n)
		wantRegion(t, "Closed", closed, f, shrunkModel(squaresOf(grown), n).region())
		beyond, f := Minus(opened, a)
		wantRegion(t, "Opened lies within the region", beyond, f, nil)
		beyond, f = Minus(a, closed)
		wantRegion(t, "the region lies within Closed", beyond, f, nil)
		twice, f := Grow(grown, m)
		together, g := Grow(a, n+m)
		if g != api.OK {
			t.Errorf("Grow: fault %d", g)
		}
		wantRegion(t, "Grow twice", twice, f, together)
	})
}

func grownModel(s squares, n int) squares {
	return within(12, func(p api.Point) bool {
		for q := range s {
			if distance(p, q) <= n {
				return true
			}
		}
		return false
	})
}

func shrunkModel(s squares, n int) squares {
	return within(12, func(p api.Point) bool {
		for y := p.Y - n; y <= p.Y+n; y++ {
			for x := p.X - n; x <= p.X+n; x++ {
				if !s[point(x, y)] {
					return false
				}
			}
		}
		return true
	})
}

func TestGrowingByMuch(t *testing.T) {
	const m, g = api.MaxAt, api.MaxGrow
	got, f := Grow([]api.Rect{rect(0, 0, 1, 1)}, g)
	wantRegion(t, "Grow", got, f, []api.Rect{rect(-g, -g, g+1, g+1)})
	got, f = Shrink([]api.Rect{rect(-m, -m, m, m)}, g)
	wantRegion(t, "Shrink", got, f, []api.Rect{rect(g-m, g-m, m-g, m-g)})
	got, f = Opened([]api.Rect{rect(-m, -m, m, m)}, g)
	wantRegion(t, "Opened", got, f, []api.Rect{rect(-m, -m, m, m)})
	got, f = Grow([]api.Rect{rect(g-m, g-m, m-g, m-g)}, g)
	wantRegion(t, "Grow up to the range", got, f, []api.Rect{rect(-m, -m, m, m)})
	got, f = Closed([]api.Rect{rect(g-m, g-m, m-g, m-g)}, g)
	wantRegion(t, "Closed up to the range", got, f, []api.Rect{rect(g-m, g-m, m-g, m-g)})
}

func TestGrowingOutOfRange(t *testing.T) {
	const m = api.MaxAt
	for _, r := range []api.Rect{rect(1-m, 0, 1, 1), rect(0, 1-m, 1, 1), rect(0, 0, m-1, 1), rect(0, 0, 1, m-1)} {
		got, f := Grow([]api.Rect{r}, 2)
		wantFault(t, "Grow", got, f, api.ErrRange)
		got, f = Closed([]api.Rect{r}, 2)
		wantFault(t, "Closed", got, f, api.ErrRange)
		if _, f := Grow([]api.Rect{r}, 1); f != api.OK {
			t.Errorf("Grow by less: fault %d", f)
		}
		got, f = Opened([]api.Rect{r}, 2)
		wantRegion(t, "Opened", got, f, nil)
		got, f = Shrink([]api.Rect{r}, 2)
		wantRegion(t, "Shrink", got, f, nil)
	}
}

func TestGrowFaults(t *testing.T) {
	good := []api.Rect{rect(0, 0, 1, 1)}
	for name, f := range growers() {
		for _, n := range []int{-1, api.MaxGrow + 1, math.MinInt, math.MaxInt} {
			got, fault := f(good, n)
			wantFault(t, name+" by too much", got, fault, api.ErrRange)
			got, fault = f(nil, n)
			wantFault(t, name+" of nothing by too much", got, fault, api.ErrRange)
		}
		for _, c := range bad() {
			got, fault := f(c.r, -1)
			wantFault(t, name+": "+c.what, got, fault, c.f)
		}
	}
}

// diagonal has squares that share rows only if they grow.
func diagonal(many, at int) []api.Rect {
	var out []api.Rect
	for i := range many {
		out = append(out, rect(at+1000*i, at+2*i, at+1000*i+1, at+2*i+1))
	}
	return out
}

func TestGrowingTooLarge(t *testing.T) {
	got, f := Grow(diagonal(200, 0), 100)
	wantFault(t, "Grow", got, f, api.ErrLarge)
	got, f = Closed(diagonal(200, 0), 100)
	wantFault(t, "Closed", got, f, api.ErrLarge)
	got, f = Grow(diagonal(900, -api.MaxAt), 100)
	wantFault(t, "the range before the number of rectangles", got, f, api.ErrRange)
	plate, f := Minus([]api.Rect{rect(-1000, -1000, 300000, 5000)}, diagonal(200, 0))
	if f != api.OK {
		t.Fatalf("Minus: fault %d", f)
	}
	got, f = Shrink(plate, 100)
	wantFault(t, "Shrink", got, f, api.ErrLarge)
	got, f = Opened(plate, 100)
	wantFault(t, "Opened", got, f, api.ErrLarge)
}
