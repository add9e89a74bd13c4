package copper_test

import (
	"fmt"
	"math"
	"math/rand/v2"
	"slices"
	"testing"

	"etchhouse/api"
	"etchhouse/copper"
	"etchhouse/shape"
)

// C5: copper more and less on one layer; all other things stay.
func TestWithAndWithout(t *testing.T) {
	bridge := region(rect(5, -5, 35, 3))
	for layer, wanted := range [][]api.Rect{
		region(rect(5, -5, 35, 3), rect(0, 0, 10, 2), rect(20, 0, 30, 10), rect(40, 0, 50, 10)),
		region(rect(5, -5, 35, 3), rect(0, 0, 30, 10), rect(40, 0, 50, 10)),
		bridge,
	} {
		more := some()
		more.Coppers[layer] = wanted
		a, f := copper.With(some(), layer, bridge)
		wantGood(t, fmt.Sprint("With on ", layer), a, f, more)
	}
	for layer, wanted := range [][]api.Rect{
		region(rect(0, 0, 5, 2), rect(20, 3, 30, 10), rect(40, 0, 50, 10)),
		region(rect(0, 0, 5, 10), rect(5, 3, 30, 10), rect(40, 0, 50, 10)),
		nil,
	} {
		less := some()
		less.Coppers[layer] = wanted
		a, f := copper.Without(some(), layer, bridge)
		wantGood(t, fmt.Sprint("Without on ", layer), a, f, less)
	}
	for layer := range 3 {
		a, f := copper.With(some(), layer, nil)
		wantGood(t, "With nothing", a, f, some())
		a, f = copper.Without(some(), layer, nil)
		wantGood(t, "Without nothing", a, f, some())
	}
}

// C5: copper can be added where a bore is, and is drilled there.
func TestWithOverBores(t *testing.T) {
	a, f := copper.With(some(), 2, region(rect(20, 0, 40, 10)))
	wantFault(t, "With", f, api.OK)
	want(t, "Groups", groupsOf(t, a)[1], group([]int{2, 4, 6}, []int{1, 3}, "b.1 b.2 c.1"))
	left, f := copper.Drilled(a)
	wantGood(t, "Drilled", left[2], f, region(rect(20, 0, 40, 3), rect(20, 3, 33, 4), rect(20, 4, 24, 6), rect(26, 4, 33, 6), rect(37, 3, 40, 7), rect(20, 6, 33, 7), rect(20, 7, 40, 10)))
}

// C5: no such layer, then no region, then too much.
func TestChangeFaults(t *testing.T) {
	for _, change := range []func(api.Art, int, []api.Rect) (api.Art, api.Fault){copper.With, copper.Without} {
		hold := func(what string, a api.Art, layer int, r []api.Rect, wanted api.Fault) {
			t.Helper()
			got, f := change(a, layer, r)
			wantWrong(t, what, got, f, wanted)
		}
		for _, layer := range []int{-1, 3, 4, math.MinInt, math.MaxInt} {
			hold("no layer", some(), layer, nil, api.ErrNone)
			hold("no layer and no region", some(), layer, []api.Rect{{}}, api.ErrNone)
		}
		for _, b := range noRegions("", func(a *api.Art, r []api.Rect) { a.Coppers = [][]api.Rect{r} }) {
			var a api.Art
			b.do(&a)
			hold("no region", some(), 2, a.Coppers[0], b.fault)
			hold("no board and no region", a, 9, a.Coppers[0], b.fault)
			hold("no board", a, 0, nil, b.fault)
		}
		hold("no board, no layer, no region", api.Art{Coppers: make([][]api.Rect, api.MaxCoppers+1)}, -1, []api.Rect{{}}, api.ErrLarge)
	}
}

// C5: as much as there can be, and more.
func TestWithTooMuch(t *testing.T) {
	const half = api.MaxRects / 2
	one := strips(half, 0, 0, 1)
	a := api.Art{Coppers: [][]api.Rect{one, nil}}
	b, f := copper.With(a, 0, strips(half, 0, 5, 6))
	wantGood(t, "as much as there can be", len(b.Coppers[0]), f, api.MaxRects)
	b, f = copper.With(a, 1, strips(half, 0, 5, 6))
	wantGood(t, "as much on two layers", len(b.Coppers[1]), f, half)
	b, f = copper.With(a, 0, strips(half+1, 0, 5, 6))
	wantWrong(t, "more on one layer", b, f, api.ErrLarge)
	b, f = copper.With(a, 1, strips(half+1, 0, 5, 6))
	wantWrong(t, "more on two layers", b, f, api.ErrLarge)
	b, f = copper.Without(api.Art{Coppers: [][]api.Rect{region(rect(0, 0, 5000, 9))}}, 0, strips(half-1, 1, 4, 5))
	wantGood(t, "much less", len(b.Coppers[0]), f, half+2)
	many := region(rect(0, 0, 5000, 1), rect(0, 2, 5000, 3))
	b, f = copper.Without(api.Art{Coppers: [][]api.Rect{many}}, 0, strips(half-1, 1, 0, 3))
	wantGood(t, "as many left as there can be", len(b.Coppers[0]), f, api.MaxRects)
	b, f = copper.Without(api.Art{Coppers: [][]api.Rect{many}}, 0, strips(half, 1, 0, 3))
	wantWrong(t, "too many left", b, f, api.ErrLarge)
	b, f = copper.Without(api.Art{Coppers: [][]api.Rect{many, region(rect(0, 0, 1, 1))}}, 0, strips(half-1, 1, 0, 3))
	wantWrong(t, "too many left on two layers", b, f, api.ErrLarge)
}

// C5: less copper can be too many pieces.
func TestWithoutTooMuch(t *testing.T) {
	const quarter = api.MaxPieces / 4
	r, b := cut(quarter, quarter)
	b.To = 1
	a := api.Art{Coppers: [][]api.Rect{r, r}, Bores: []api.Bore{b}}
	got, f := copper.Without(a, 1, region(rect(0, 9000, 1, 9001)))
	wantWrong(t, "one piece too many", got, f, api.ErrLarge)
	got, f = copper.Without(a, 1, region(rect(0, 9000, 1, api.MaxHoleSize)))
	wantFault(t, "not one piece more", f, api.OK)
	want(t, "groups", len(groupsOf(t, got)), 1)
}

// C5: what there is behind With and Without is the union with a region, or what is left without it.
func TestChangeModel(t *testing.T) {
	tried(t, 300, func(rnd *rand.Rand) {
		a := randomArt(rnd)
		layer, r := rnd.IntN(len(a.Coppers)), region(randomRects(rnd, 4, 6)...)
		more, less := copied(a), copied(a)
		more.Coppers[layer] = region(slices.Concat(a.Coppers[layer], r)...)
		var rest []spot
		for _, one := range a.Coppers[layer] {
			for _, s := range spotsOf(one, layer) {
				if has, f := shape.Has(r, api.Point{X: s.x, Y: s.y}); f == api.OK && !has {
					rest = append(rest, s)
				}
			}
		}
		less.Coppers[layer] = regionOf(rest)
		got, f := copper.With(a, layer, r)
		wantGood(t, "With", got, f, more)
		got, f = copper.Without(a, layer, r)
		wantGood(t, "Without", got, f, less)
	})
}

// C5: what follows: more copper never opens a net, less never makes a short.
func TestChangeFollows(t *testing.T) {
	for _, board := range []func(*rand.Rand) api.Art{randomArt, crossing} {
		tried(t, 150, func(rnd *rand.Rand) {
			a := board(rnd)
			types, x := randomList(rnd)
			layer, r := rnd.IntN(len(a.Coppers)), region(randomRects(rnd, 2, 6)...)
			more, f := copper.With(a, layer, r)
			wantFault(t, "With", f, api.OK)
			less, f := copper.Without(a, layer, r)
			wantFault(t, "Without", f, api.OK)
			joined, joinedMore, joinedLess := joinedOn(t, a), joinedOn(t, more), joinedOn(t, less)
			for _, l := range a.Lands {
				for _, m := range a.Lands {
					p, q := pinOf(l), pinOf(m)
					before := joined(p, q)
					if before && !joinedMore(p, q) || !before && joinedLess(p, q) {
						t.Errorf("%v, %v: joined before %v", p, q, before)
					}
				}
			}
			holdNets(t, netsOf(t, types, x, more, api.WrongOpen), netsOf(t, types, x, a, api.WrongOpen))
			if len(netsOf(t, types, x, a, api.WrongShort)) == 0 {
				holdNets(t, netsOf(t, types, x, less, api.WrongShort), nil)
			}
		})
	}
}

// netsOf returns the nets that are wrong so.
func netsOf(t *testing.T, types []api.PartType, x api.Netlist, a api.Art, kind int) []string {
	t.Helper()
	wrongs, f := copper.Compare(types, x, a)
	wantFault(t, "Compare", f, api.OK)
	var out []string
	for _, w := range wrongs {
		if w.Kind == kind {
			out = append(out, fmt.Sprint(w.Nets))
		}
	}
	return out
}

// holdNets holds that there are no other ones than before.
func holdNets(t *testing.T, now, before []string) {
	t.Helper()
	for _, n := range now {
		if !slices.Contains(before, n) {
			t.Errorf("%s is wrong now; before: %v", n, before)
		}
	}
}
