package shape

import (
	"math/rand/v2"
	"slices"
	"testing"

	"etchhouse/api"
)

// Two rectangles, with all that is asked of both.
func TestTwoRects(t *testing.T) {
	tried(t, 3000, func(r *rand.Rand) {
		one := func() api.Rect {
			x, y := r.IntN(9)-4, r.IntN(9)-4
			return rect(x, y, x+1+r.IntN(4), y+1+r.IntN(4))
		}
		a, b := one(), one()
		least, beside, common := 99, false, squares{}
		for p := range squaresOf([]api.Rect{a}) {
			for q := range squaresOf([]api.Rect{b}) {
				least = min(least, distance(p, q))
				beside = beside || distance(p, q) == 1 && (p.X == q.X || p.Y == q.Y)
				if p == q {
					common[p] = true
				}
			}
		}
		if got := Distance(a, b); got != least {
			t.Errorf("Distance of %v and %v: %d, want %d", a, b, got, least)
		}
		if got := Overlap(a, b); got != (least == 0) {
			t.Errorf("%v and %v overlap: %v", a, b, got)
		}
		if got, want := Touch(a, b), least > 0 && beside; got != want {
			t.Errorf("%v and %v touch: %v, want %v", a, b, got, want)
		}
		if least == 0 && !slices.Equal([]api.Rect{Common(a, b)}, common.region()) {
			t.Errorf("%v and %v have %v in common", a, b, Common(a, b))
		}
		if got := Overlap(Widened(a, 2), b); got != (least <= 2) {
			t.Errorf("%v widened by 2 and %v overlap: %v", a, b, got)
		}
	})
}

// Rectangles that lie over one another, and what two lists of them cover.
func TestTwoLists(t *testing.T) {
	tried(t, 1000, func(r *rand.Rand) {
		a, b := randomRects(r, 6, 5), randomRects(r, 6, 5)
		inA, inB := squaresOf(a), squaresOf(b)
		both := within(9, func(p api.Point) bool { return inA[p] && inB[p] })
		wantRegion(t, "InBoth", InBoth(a, b), api.OK, both.region())
		alone := within(9, func(p api.Point) bool { return inA[p] && !inB[p] })
		wantRegion(t, "InFirstAlone", InFirstAlone(a, b), api.OK, alone.region())
		first, found := FirstIn(a, b)
		if found != (len(both) > 0) || found && first != both.sorted()[0] || !found && first != (api.Point{}) {
			t.Errorf("FirstIn %v and %v: %v, %v", a, b, first, found)
		}
		if len(a) == 0 || len(b) == 0 {
			return
		}
		least := 99
		for p := range inA {
			for q := range inB {
				least = min(least, distance(p, q))
			}
		}
		if got := LeastDistance(a, b); got != least {
			t.Errorf("LeastDistance of %v and %v: %d, want %d", a, b, got, least)
		}
	})
}

// What lies around rectangles, and outside of a region.
func TestAround(t *testing.T) {
	tried(t, 500, func(r *rand.Rand) {
		a, low, high := randomRects(r, 6, 5), r.IntN(4), r.IntN(4)
		in := squaresOf(a)
		spread := squares{}
		for p := range in {
			for y := p.Y - low; y <= p.Y+high; y++ {
				for x := p.X - low; x <= p.X+high; x++ {
					spread[point(x, y)] = true
				}
			}
		}
		wantRegion(t, "Spread", covered(Spread(a, low, high)), api.OK, spread.region())
		if len(a) == 0 {
			return
		}
		frame := Widened(around(a), 1)
		out := within(9, func(p api.Point) bool { return Overlap(frame, squareAt(p)) && !in[p] })
		wantRegion(t, "Outside", Outside(a), api.OK, out.region())
		if l := Stacked(in.region()); len(l) > len(in.region()) || !slices.Equal(covered(l), in.region()) {
			t.Errorf("Stacked: %v is not %v", l, in.region())
		}
	})
	l := Stacked([]api.Rect{rect(0, 0, 1, 1), rect(0, 1, 1, 2), rect(5, 1, 6, 2), rect(0, 2, 1, 3)})
	wantRegion(t, "Stacked", l, api.OK, []api.Rect{rect(0, 0, 1, 3), rect(5, 1, 6, 2)})
	wantRegion(t, "outside of nothing", Outside(nil), api.OK, nil)
}

// There is no limit to what is covered, or to where it is.
func TestNoLimits(t *testing.T) {
	var across, upright []api.Rect
	const far, many = 10 * api.MaxAt, 100
	for i := range many {
		across = append(across, rect(far, far+2*i, far+2*many, far+2*i+1))
		upright = append(upright, rect(far+2*i, far, far+2*i+1, far+2*many))
	}
	if got := len(InBoth(across, upright)); got != many*many {
		t.Errorf("InBoth: %d rectangles", got)
	}
	if got := len(InFirstAlone(across, upright)); got != many*many {
		t.Errorf("InFirstAlone: %d rectangles", got)
	}
	if got := len(covered(slices.Concat(across, upright))); got <= api.MaxRects {
		t.Errorf("covered: %d rectangles", got)
	}
}
