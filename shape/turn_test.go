package shape

import (
	"math"
	"math/rand/v2"
	"slices"
	"testing"

	"etchhouse/api"
)

// badTurns are out of range, each in another way.
func badTurns() []api.Turn {
	const m = api.MaxAt
	return []api.Turn{
		{Quarters: -1}, {Quarters: 4}, {Quarters: math.MinInt}, {Quarters: math.MaxInt},
		{At: point(m+1, 0)}, {At: point(-m-1, 0)}, {At: point(0, m+1)}, {At: point(0, -m-1)}, {At: point(math.MinInt, math.MaxInt)},
	}
}

// allTurns are all flips and quarters, with some places.
func allTurns() []api.Turn {
	var out []api.Turn
	for _, flip := range []bool{false, true} {
		for q := range 4 {
			for _, at := range points(0, 0, 3, -7, -2, 1) {
				out = append(out, api.Turn{Flip: flip, Quarters: q, At: at})
			}
		}
	}
	return out
}

func TestCheckTurn(t *testing.T) {
	const m = api.MaxAt
	for _, u := range append(allTurns(), api.Turn{Flip: true, Quarters: 3, At: point(-m, m)}, api.Turn{At: point(m, -m)}) {
		if f := CheckTurn(u); f != api.OK {
			t.Errorf("%v: fault %d", u, f)
		}
	}
	for _, u := range badTurns() {
		if f := CheckTurn(u); f != api.ErrRange {
			t.Errorf("%v: fault %d", u, f)
		}
	}
}

func TestTurned(t *testing.T) {
	p := point(5, 2)
	for _, c := range []struct {
		turn api.Turn
		want api.Point
	}{
		{api.Turn{}, point(5, 2)},
		{api.Turn{Quarters: 1}, point(-2, 5)},
		{api.Turn{Quarters: 2}, point(-5, -2)},
		{api.Turn{Quarters: 3}, point(2, -5)},
		{api.Turn{Flip: true}, point(-5, 2)},
		{api.Turn{Flip: true, Quarters: 1}, point(-2, -5)},
		{api.Turn{Flip: true, Quarters: 2}, point(5, -2)},
		{api.Turn{Flip: true, Quarters: 3}, point(2, 5)},
		{api.Turn{Flip: true, Quarters: 1, At: point(10, 20)}, point(8, 15)},
	} {
		if q, f := Turned(p, c.turn); f != api.OK || q != c.want {
			t.Errorf("%v: %v, fault %d", c.turn, q, f)
		}
	}
}

func TestTurnedFaults(t *testing.T) {
	const m = api.MaxAt
	for _, u := range badTurns() {
		if q, f := Turned(point(0, 0), u); f != api.ErrRange || q != (api.Point{}) {
			t.Errorf("%v: %v, fault %d", u, q, f)
		}
	}
	for _, p := range []api.Point{point(m+1, 0), point(-m-1, 0), point(0, m+1), point(0, -m-1), point(math.MinInt, math.MinInt)} {
		// Moved back it would be in the range again.
		for _, u := range []api.Turn{{}, {At: point(-5, -5)}, {At: point(5, 5)}} {
			if q, f := Turned(p, u); f != api.ErrRange || q != (api.Point{}) {
				t.Errorf("%v by %v: %v, fault %d", p, u, q, f)
			}
		}
	}
	if q, f := Turned(point(m, -m), api.Turn{Quarters: 1}); f != api.OK || q != point(m, m) {
		t.Errorf("at the bound: %v, fault %d", q, f)
	}
	for _, u := range []api.Turn{{At: point(1, 0)}, {At: point(0, 1)}, {Quarters: 2, At: point(-1, 0)}, {Quarters: 2, At: point(0, -1)}} {
		if q, f := Turned(point(m, m), u); f != api.ErrRange || q != (api.Point{}) {
			t.Errorf("beyond the bound by %v: %v, fault %d", u, q, f)
		}
	}
}

func TestTurnedRegion(t *testing.T) {
	got, f := TurnedRegion([]api.Rect{rect(0, 0, 2, 1)}, api.Turn{Quarters: 1})
	wantRegion(t, "a quarter", got, f, []api.Rect{rect(-1, 0, 0, 2)})
	got, f = TurnedRegion([]api.Rect{rect(0, 0, 2, 1), rect(0, 1, 1, 2)}, api.Turn{Flip: true, At: point(10, 0)})
	wantRegion(t, "a mirror", got, f, []api.Rect{rect(8, 0, 10, 1), rect(9, 1, 10, 2)})
	got, f = TurnedRegion(nil, api.Turn{Flip: true, Quarters: 2, At: point(api.MaxAt, 0)})
	wantRegion(t, "nothing", got, f, nil)
	const m = api.MaxAt
	got, f = TurnedRegion([]api.Rect{rect(-m, -m, m, m)}, api.Turn{Flip: true, Quarters: 3})
	wantRegion(t, "all there is", got, f, []api.Rect{rect(-m, -m, m, m)})
}

func TestRandomTurnedRegions(t *testing.T) {
	turns := allTurns()
	tried(t, 300, func(r *rand.Rand) {
		a, u := randomRegion(r, 5), turns[r.IntN(len(turns))]
		got, f := TurnedRegion(a, u)
		wantRegion(t, "TurnedRegion", got, f, turnedModel(t, squaresOf(a), u).region())
		before, f := Pieces(a)
		after, g := Pieces(got)
		if f != api.OK || g != api.OK || len(before) != len(after) || area(t, a) != area(t, got) {
			t.Errorf("%v by %v: other pieces or another area", a, u)
		}
		if !slices.Equal(distances(t, before), distances(t, after)) {
			t.Errorf("%v by %v: other gaps", a, u)
		}
	})
}

// turnedModel turns the middles of squares, with all lengths doubled.
func turnedModel(t *testing.T, s squares, u api.Turn) squares {
	t.Helper()
	u.At = point(2*u.At.X, 2*u.At.Y)
	out := squares{}
	for p := range s {
		q, f := Turned(point(2*p.X+1, 2*p.Y+1), u)
		if f != api.OK {
			t.Errorf("Turned: fault %d", f)
		}
		out[point((q.X-1)/2, (q.Y-1)/2)] = true
	}
	return out
}

func distances(t *testing.T, l [][]api.Rect) []int {
	t.Helper()
	gaps, f := Gaps(l, api.MaxGrow)
	if f != api.OK {
		t.Errorf("Gaps: fault %d", f)
	}
	var out []int
	for _, g := range gaps {
		out = append(out, g.Distance)
	}
	slices.Sort(out)
	return out
}

func TestTurnedRegionFaults(t *testing.T) {
	const m = api.MaxAt
	for _, c := range bad() {
		got, f := TurnedRegion(c.r, api.Turn{Quarters: 7})
		wantFault(t, c.what, got, f, c.f)
	}
	for _, u := range badTurns() {
		got, f := TurnedRegion(nil, u)
		wantFault(t, "a turn out of range", got, f, api.ErrRange)
	}
	for _, u := range []api.Turn{{At: point(1, 0)}, {At: point(-1, 0)}, {At: point(0, 1)}, {At: point(0, -1)}} {
		got, f := TurnedRegion([]api.Rect{rect(-m, -m, m, m)}, u)
		wantFault(t, "it comes out of the range", got, f, api.ErrRange)
	}
	lying, standing := stairsLying(t), api.Turn{Quarters: 1}
	got, f := TurnedRegion(lying, standing)
	wantFault(t, "too many rectangles", got, f, api.ErrLarge)
	got, f = TurnedRegion(lying, api.Turn{Quarters: 1, At: point(-m, 0)})
	wantFault(t, "the range before the number of rectangles", got, f, api.ErrRange)
}

// stairsLying have few rectangles as long as they lie.
func stairsLying(t *testing.T) []api.Rect {
	t.Helper()
	var l []api.Rect
	for _, r := range stairs(45) {
		l = append(l, rect(r.Y0, r.X0, r.Y1, r.X1))
	}
	return region(t, l...)
}

func TestThen(t *testing.T) {
	for _, u := range allTurns() {
		for _, v := range allTurns() {
			both, f := Then(u, v)
			if f != api.OK || CheckTurn(both) != api.OK {
				t.Fatalf("%v, then %v: %v, fault %d", u, v, both, f)
			}
			for _, p := range points(0, 0, 1, 0, 0, 1, 4, -9) {
				first, _ := Turned(p, u)
				want, _ := Turned(first, v)
				if got, _ := Turned(p, both); got != want {
					t.Errorf("%v by %v, then %v: %v, want %v", p, u, v, got, want)
				}
			}
		}
	}
}

func TestThenFaults(t *testing.T) {
	const m = api.MaxAt
	for _, u := range badTurns() {
		for _, pair := range [][]api.Turn{{u, {}}, {{}, u}, {u, u}} {
			if got, f := Then(pair[0], pair[1]); f != api.ErrRange || got != (api.Turn{}) {
				t.Errorf("%v: %v, fault %d", pair, got, f)
			}
		}
	}
	for _, at := range points(1, 0, 0, -1) {
		if got, f := Then(api.Turn{At: point(m, -m)}, api.Turn{At: at}); f != api.ErrRange || got != (api.Turn{}) {
			t.Errorf("beyond the bound: %v, fault %d", got, f)
		}
	}
	if got, f := Then(api.Turn{At: point(m, -m)}, api.Turn{Quarters: 2, At: point(0, 0)}); f != api.OK || got.At != point(-m, m) {
		t.Errorf("at the bound: %v, fault %d", got, f)
	}
}

func TestBack(t *testing.T) {
	const m = api.MaxAt
	for _, u := range append(allTurns(), api.Turn{Flip: true, Quarters: 1, At: point(m, -m)}, api.Turn{Quarters: 3, At: point(-m, -m)}) {
		back, f := Back(u)
		if f != api.OK {
			t.Errorf("%v: fault %d", u, f)
		}
		if none, f := Then(u, back); f != api.OK || none != (api.Turn{}) {
			t.Errorf("%v and back by %v: %v, fault %d", u, back, none, f)
		}
		if none, f := Then(back, u); f != api.OK || none != (api.Turn{}) {
			t.Errorf("back by %v and %v: %v, fault %d", back, u, none, f)
		}
	}
	for _, u := range badTurns() {
		if got, f := Back(u); f != api.ErrRange || got != (api.Turn{}) {
			t.Errorf("%v: %v, fault %d", u, got, f)
		}
	}
}
