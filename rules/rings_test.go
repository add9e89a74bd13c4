package rules_test

import (
	"fmt"
	"math/rand/v2"
	"testing"

	"etchhouse/api"
	"etchhouse/rules"
)

// openRing is a break of Rings.
func openRing(a, b, is, need, x, y int) api.Break {
	return api.Break{Kind: api.BreakRing, A: a, B: b, Is: is, Need: need, At: point(x, y)}
}

// R3: as much copper around a bore as is needed, and one less at each side.
func TestRings(t *testing.T) {
	for ring := range 4 {
		for _, c := range []struct {
			what string
			r    api.Rect
			at   api.Point
		}{
			{"as wide", rect(-ring, -ring, 2+ring, 2+ring), api.Point{}},
			{"less at the left", rect(1-ring, -ring, 2+ring, 2+ring), point(-ring, -ring)},
			{"less below", rect(-ring, 1-ring, 2+ring, 2+ring), point(-ring, -ring)},
			{"less at the right", rect(-ring, -ring, 1+ring, 2+ring), point(1+ring, -ring)},
			{"less above", rect(-ring, -ring, 2+ring, 1+ring), point(-ring, 1+ring)},
		} {
			a := art([]api.Rect{c.r})
			a.Bores = []api.Bore{bore(1, 1, 2, 0, 0)}
			l, f := rules.Rings(api.RuleSet{Ring: ring}, a)
			if c.what == "as wide" || ring == 0 {
				wantBreaks(t, fmt.Sprint(ring, " ", c.what), l, f)
			} else {
				wantBreaks(t, fmt.Sprint(ring, " ", c.what), l, f, openRing(0, 0, ring-1, ring, c.at.X, c.at.Y))
			}
		}
	}
	a := art([]api.Rect{rect(-3, -3, 5, 5)})
	a.Bores = []api.Bore{plain(1, 1, 2, 0, 0)}
	l, f := rules.Rings(api.RuleSet{Ring: 50}, a)
	wantBreaks(t, "a bore that is not plated", l, f)
	l, f = rules.Rings(api.RuleSet{Ring: 50}, art([]api.Rect{rect(-3, -3, 5, 5)}))
	wantBreaks(t, "no bore", l, f)
}

// R3: Is is how wide the ring is all around; At is the first square for Need, which need not be the nearest one.
func TestWhereRings(t *testing.T) {
	hole := func(x, y int) []api.Rect {
		return region(rect(-9, -9, 11, y), rect(-9, y, x, y+1), rect(x+1, y, 11, y+1), rect(-9, y+1, 11, 11))
	}
	for _, c := range []struct {
		what    string
		x, y    int
		is, ask int
		at      api.Point
	}{
		{"not so far", 5, 0, 3, 3, api.Point{}},
		{"just so far", 5, 0, 3, 4, point(5, 0)},
		{"further", 5, 0, 3, 9, point(5, 0)},
		{"beyond the copper", 5, 0, 3, 10, point(-10, -10)},
		{"at a side", 2, 1, 0, 4, point(2, 1)},
		{"at a corner", -1, -1, 0, 4, point(-1, -1)},
		{"near a corner", -3, -2, 2, 4, point(-3, -2)},
		{"above", 0, 7, 5, 6, point(0, 7)},
	} {
		a := art(nil)
		a.Coppers[0] = hole(c.x, c.y)
		a.Bores = []api.Bore{bore(1, 1, 2, 0, 0)}
		l, f := rules.Rings(api.RuleSet{Ring: c.ask}, a)
		if c.is == c.ask {
			wantBreaks(t, c.what, l, f)
		} else {
			wantBreaks(t, c.what, l, f, openRing(0, 0, c.is, c.ask, c.at.X, c.at.Y))
		}
	}
}

// R3: what belongs to another bore that goes through the layer is as good as copper, plated or not.
func TestRingsOverBores(t *testing.T) {
	a := art([]api.Rect{rect(0, 0, 10, 10)}, []api.Rect{rect(0, 0, 10, 10)})
	a.Bores = []api.Bore{bore(5, 5, 2, 0, 1), plain(8, 5, 2, 0, 0), bore(2, 5, 2, 1, 1)}
	l, f := rules.Rings(api.RuleSet{Ring: 3}, a)
	wantBreaks(t, "over bores in copper", l, f, openRing(2, 1, 1, 3, -2, 1))
	a.Coppers[0] = region(rect(0, 0, 7, 10), rect(7, 0, 9, 4), rect(9, 0, 10, 10), rect(7, 6, 9, 10))
	l, f = rules.Rings(api.RuleSet{Ring: 3}, a)
	wantBreaks(t, "over a bore where there was no copper", l, f, openRing(2, 1, 1, 3, -2, 1))
	a.Coppers[1] = region(rect(0, 0, 7, 10), rect(7, 0, 9, 4), rect(9, 0, 10, 10), rect(7, 6, 9, 10))
	l, f = rules.Rings(api.RuleSet{Ring: 3}, a)
	wantBreaks(t, "beside a bore through another layer", l, f, openRing(0, 1, 1, 3, 7, 4), openRing(2, 1, 1, 3, -2, 1))
	a = art([]api.Rect{rect(0, 0, 10, 10)})
	a.Bores = []api.Bore{bore(5, 5, 2, 0, 0), bore(7, 5, 2, 0, 0)}
	l, f = rules.Rings(api.RuleSet{Ring: 2}, a)
	wantBreaks(t, "two beside one another", l, f)
	l, f = rules.Rings(api.RuleSet{Ring: 3}, a)
	wantBreaks(t, "two beside one another, the second near the edge", l, f, openRing(1, 0, 2, 3, 10, 1))
}

// R3: only coppers with something in the square of a bore or at its sides count, as it was before any bore was drilled.
func TestRingsAtCopper(t *testing.T) {
	for _, c := range []struct {
		what  string
		r     []api.Rect
		count bool
	}{
		{"nothing", nil, false},
		{"something far away", []api.Rect{rect(5, 5, 9, 9)}, false},
		{"something one square away", []api.Rect{rect(3, 0, 9, 2)}, false},
		{"a corner that touches", []api.Rect{rect(2, 2, 9, 9)}, false},
		{"the other corner", []api.Rect{rect(-9, 2, 0, 9)}, false},
		{"corners all around", []api.Rect{rect(2, 2, 9, 9), rect(-9, 2, 0, 9), rect(2, -9, 9, 0), rect(-9, -9, 0, 0)}, false},
		{"a side", []api.Rect{rect(2, 1, 9, 9)}, true},
		{"the lower side", []api.Rect{rect(-9, -9, 1, 0)}, true},
		{"all of it, and no more", []api.Rect{rect(0, 0, 2, 2)}, true},
		{"one square in it", []api.Rect{rect(1, 1, 2, 2)}, true},
		{"all around it, and nothing in it", []api.Rect{rect(-9, -9, 9, 0), rect(-9, 2, 9, 9), rect(-9, 0, 0, 2), rect(2, 0, 9, 2)}, true},
	} {
		a := art(nil, c.r, []api.Rect{rect(-9, -9, 11, 11)})
		a.Bores = []api.Bore{bore(1, 1, 2, 0, 2)}
		l, f := rules.Rings(api.RuleSet{Ring: 9}, a)
		wantFault(t, c.what, f, api.OK)
		if told := len(l) == 1 && l[0].B == 1; told != c.count || len(l) > 1 {
			t.Errorf("%s: %v", c.what, l)
		}
	}
	a := art([]api.Rect{rect(0, 0, 2, 2)})
	a.Bores = []api.Bore{bore(1, 1, 2, 0, 0), bore(3, 1, 2, 0, 0)}
	l, f := rules.Rings(api.RuleSet{Ring: 1}, a)
	wantBreaks(t, "copper that another bore takes away", l, f, openRing(0, 0, 0, 1, -1, -1), openRing(1, 0, 0, 1, 1, -1))
}

// R3: rings lead beyond where copper can be.
func TestRingsAtTheEnd(t *testing.T) {
	const far = api.MaxAt
	a := art([]api.Rect{rect(-far, -far, far, far)})
	a.Bores = []api.Bore{bore(1-far, 1-far, 2, 0, 0), bore(far-1, far-1, 2, 0, 0), bore(far-5, 0, 2, 0, 0), bore(0, 0, 2, 0, 0)}
	l, f := rules.Rings(api.RuleSet{Ring: 4}, a)
	wantBreaks(t, "one past the end", l, f, openRing(0, 0, 0, 4, -far-4, -far-4), openRing(1, 0, 0, 4, far, far-6))
	l, f = rules.Rings(api.RuleSet{Ring: api.MaxRule}, a)
	wantBreaks(t, "far past the end", l, f, openRing(0, 0, 0, api.MaxRule, -far-api.MaxRule, -far-api.MaxRule),
		openRing(1, 0, 0, api.MaxRule, far, far-2-api.MaxRule), openRing(2, 0, 4, api.MaxRule, far, -1-api.MaxRule))
}

// grid is so many bores of one square, each 4 from the next one, through all of so many coppers.
func grid(many, coppers int) []api.Bore {
	var out []api.Bore
	for i := range many {
		out = append(out, bore(4*(i%25), 4*(i/25), 1, 0, coppers-1))
	}
	return out
}

// R3: as many breaks as can be told, and one more.
func TestMostRings(t *testing.T) {
	plates := func(many int) api.Art {
		a := api.Art{Coppers: make([][]api.Rect, many), Bores: grid(api.MaxBores, many)}
		for i := range a.Coppers {
			a.Coppers[i] = region(rect(-1, -1, 200, 200))
		}
		return a
	}
	a := plates(api.MaxFound / api.MaxBores)
	l, f := rules.Rings(api.RuleSet{Ring: 200}, a)
	wantFault(t, "as many as can be", f, api.OK)
	want(t, "as many as can be", len(l), api.MaxFound)
	want(t, "the last one", l[api.MaxFound-1], openRing(499, 9, 77, 200, -104, -124))
	a.Coppers = append(a.Coppers, region(rect(95, 75, 97, 77)))
	a.Bores[499].To++
	l, f = rules.Rings(api.RuleSet{Ring: 200}, a)
	wantWrong(t, "one more", l, f, api.ErrLarge)
	l, f = rules.Rings(api.RuleSet{Ring: 1}, a)
	wantBreaks(t, "fewer", l, f, openRing(499, 10, 0, 1, 97, 75))
}

// R3: random boards hold against the model.
func TestRingsModel(t *testing.T) {
	seen, held := 0, 0
	tried(t, 1500, func(rnd *rand.Rand) {
		a, r := randomArt(rnd), randomRules(rnd, 3)
		if rnd.IntN(2) == 0 {
			a.Coppers[0] = region(append(randomRects(rnd, 2, 3), rect(-side, -side, side, side-1))...)
		}
		l, f := rules.Rings(r, a)
		wantBreaks(t, fmt.Sprintf("%+v %+v", r, a), l, f, modelOf(r, a, nil).rings()...)
		seen += len(l)
		if len(l) == 0 && len(a.Bores) > 0 && r.Ring > 0 {
			held++
		}
	})
	if seen < 500 || held < 100 {
		t.Errorf("%d breaks, none on %d boards", seen, held)
	}
}
