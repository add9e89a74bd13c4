package copper_test

import (
	"fmt"
	"math"
	"math/rand/v2"
	"slices"
	"strings"
	"testing"

	"etchhouse/api"
	"etchhouse/copper"
)

// C1: the square of a bore lies around a point; of an even Size as much on both sides, of an odd one a square more to the right and above.
func TestSquare(t *testing.T) {
	const far = api.MaxAt
	for _, c := range []struct {
		x, y, size int
		want       api.Rect
	}{
		{0, 0, 1, rect(0, 0, 1, 1)},
		{0, 0, 2, rect(-1, -1, 1, 1)},
		{0, 0, 3, rect(-1, -1, 2, 2)},
		{-1, -1, 1, rect(-1, -1, 0, 0)},
		{-1, -1, 2, rect(-2, -2, 0, 0)},
		{-1, -1, 3, rect(-2, -2, 1, 1)},
		{-7, -20, 5, rect(-9, -22, -4, -17)},
		{-7, 20, 6, rect(-10, 17, -4, 23)},
		{-8, -20, 6, rect(-11, -23, -5, -17)},
		{8, -21, 5, rect(6, -23, 11, -18)},
		{far - 1, far - 1, 1, rect(far-1, far-1, far, far)},
		{-far, -far, 1, rect(-far, -far, 1-far, 1-far)},
		{far - 1, 1 - far, 2, rect(far-2, -far, far, 2-far)},
		{far - 2, 1 - far, 3, rect(far-3, -far, far, 3-far)},
		{far - 5000, 5000 - far, api.MaxHoleSize, rect(far-10000, -far, far, 10000-far)},
	} {
		what := fmt.Sprint(c.x, c.y, c.size)
		b := bore(c.x, c.y, c.size, 0, 0)
		r, f := copper.Square(b)
		wantGood(t, what, r, f, c.want)
		b.From, b.To, b.Plated = math.MinInt, -9, false
		r, f = copper.Square(b)
		wantGood(t, what+" from and to nowhere", r, f, c.want)
		wantFault(t, what+" on a board", copper.CheckArt(boardWith(bore(c.x, c.y, c.size, 0, 0))), api.OK)
	}
}

// C1: sizes and places of bores that are out of range, also of those of a board.
func TestSquareOutOfRange(t *testing.T) {
	const far, low, high = api.MaxAt, math.MinInt, math.MaxInt
	for _, b := range []api.Bore{
		bore(0, 0, 0, 0, 0), bore(0, 0, -1, 0, 0), bore(0, 0, low, 0, 0),
		bore(0, 0, api.MaxHoleSize+1, 0, 0), bore(0, 0, high, 0, 0), bore(high, high, high, 0, 0), bore(low, low, high, 0, 0),
		bore(far+1, 0, 1, 0, 0), bore(0, far+1, 1, 0, 0), bore(-far-1, 0, 1, 0, 0), bore(0, -far-1, 1, 0, 0),
		bore(low, 0, 1, 0, 0), bore(0, low, 1, 0, 0), bore(high, 0, 1, 0, 0), bore(0, high, 1, 0, 0),
		bore(far, 0, 1, 0, 0), bore(0, far, 1, 0, 0), bore(far-1, 0, 3, 0, 0), bore(0, far-1, 3, 0, 0),
		bore(-far, 0, 2, 0, 0), bore(0, -far, 2, 0, 0), bore(-far, 0, 3, 0, 0),
		bore(far-4999, 0, api.MaxHoleSize, 0, 0), bore(0, 4999-far, api.MaxHoleSize, 0, 0),
		bore(far+1, 0, 4, 0, 0), bore(0, -far-1, 1, 0, 0),
	} {
		r, f := copper.Square(b)
		wantWrong(t, fmt.Sprint(b), r, f, api.ErrRange)
		wantFault(t, fmt.Sprint(b, " on a board"), copper.CheckArt(boardWith(b)), api.ErrRange)
		wantFault(t, fmt.Sprint(b, " behind another one"), copper.CheckArt(boardWith(bore(0, 0, 1, 0, 0), b)), api.ErrRange)
	}
}

// C1: squares are those of the model, and Square does not ask for coppers.
func TestSquareModel(t *testing.T) {
	tried(t, 500, func(rnd *rand.Rand) {
		b := bore(rnd.IntN(41)-20, rnd.IntN(41)-20, 1+rnd.IntN(20), rnd.IntN(9)-4, rnd.IntN(9)-4)
		r, f := copper.Square(b)
		wantGood(t, fmt.Sprint(b), r, f, squareOf(b))
	})
}

// boardWith has bores, and a copper without any.
func boardWith(bores ...api.Bore) api.Art {
	return api.Art{Coppers: [][]api.Rect{nil}, Bores: bores}
}

// C1: bores can begin at each copper, and end at this one or one below.
func TestSpans(t *testing.T) {
	for coppers := 1; coppers <= 4; coppers++ {
		for from := -1; from <= 5; from++ {
			for to := -1; to <= 5; to++ {
				fault := api.ErrRange
				if 0 <= from && from <= to && to < coppers {
					fault = api.OK
				}
				a := boardWith(bore(0, 0, 1, from, to))
				a.Coppers = make([][]api.Rect, coppers)
				wantFault(t, fmt.Sprint(coppers, from, to), copper.CheckArt(a), fault)
			}
		}
	}
	wantFault(t, "far", copper.CheckArt(boardWith(bore(0, 0, 1, math.MinInt, math.MaxInt))), api.ErrRange)
	wantFault(t, "far", copper.CheckArt(boardWith(bore(0, 0, 1, 0, math.MaxInt))), api.ErrRange)
	wantFault(t, "far", copper.CheckArt(boardWith(bore(0, 0, 1, math.MinInt, 0))), api.ErrRange)
}

// C1: lands are of paths and words, on coppers, in range, in order.
func TestLands(t *testing.T) {
	const far = api.MaxAt
	long := strings.Repeat("x", api.MaxName)
	longPath := strings.Repeat(long+"/", 4) + strings.Repeat("x", api.MaxPath-4*(api.MaxName+1))
	for _, c := range []struct {
		what  string
		lands []api.Land
		want  api.Fault
	}{
		{"some", []api.Land{land("a.1", 0, 0, 0), land("a.2", 1, 0, 0), land("b.1", 0, 0, 0)}, api.OK},
		{"a path", []api.Land{land("a/b+/c-#.x_1", 0, 0, 0)}, api.OK},
		{"long", []api.Land{land(longPath+"."+long, 0, 0, 0)}, api.OK},
		{"no path", []api.Land{land("a/.1", 0, 0, 0)}, api.ErrName},
		{"an empty path", []api.Land{land(".1", 0, 0, 0)}, api.ErrName},
		{"too long a path", []api.Land{land(longPath+"x.1", 0, 0, 0)}, api.ErrName},
		{"too long a word in a path", []api.Land{land("a/"+long+"x.1", 0, 0, 0)}, api.ErrName},
		{"a path as a pin", []api.Land{land("a.1/2", 0, 0, 0)}, api.ErrName},
		{"an empty pin", []api.Land{land("a", 0, 0, 0)}, api.ErrName},
		{"too long a pin", []api.Land{land("a."+long+"x", 0, 0, 0)}, api.ErrName},
		{"the corners", []api.Land{land("a.1", 0, -far, -far), land("a.2", 0, far, far), land("a.3", 0, far, -far)}, api.OK},
		{"far to the right", []api.Land{land("a.1", 0, far+1, 0)}, api.ErrRange},
		{"far to the left", []api.Land{land("a.1", 0, -far-1, 0)}, api.ErrRange},
		{"far above", []api.Land{land("a.1", 0, 0, far+1)}, api.ErrRange},
		{"far below", []api.Land{land("a.1", 0, 0, -far-1)}, api.ErrRange},
		{"very far", []api.Land{land("a.1", 0, math.MinInt, math.MaxInt)}, api.ErrRange},
		{"above all layers", []api.Land{land("a.1", -1, 0, 0)}, api.ErrRange},
		{"below all layers", []api.Land{land("a.1", 2, 0, 0)}, api.ErrRange},
		{"on the last layer", []api.Land{land("a.1", 1, 0, 0)}, api.OK},
		{"parts out of order", []api.Land{land("b.1", 0, 0, 0), land("a.2", 0, 0, 0)}, api.ErrOrder},
		{"pins out of order", []api.Land{land("a.2", 0, 0, 0), land("a.1", 0, 0, 0)}, api.ErrOrder},
		{"a pin twice", []api.Land{land("a.1", 0, 0, 0), land("a.1", 1, 5, 5)}, api.ErrOrder},
		{"byte by byte", []api.Land{land("B.1", 0, 0, 0), land("a.1", 0, 0, 0), land("a.10", 0, 0, 0), land("a.9", 0, 0, 0), land("a/a.1", 0, 0, 0)}, api.OK},
		{"on one square", []api.Land{land("a.1", 0, 3, 3), land("a.2", 0, 3, 3)}, api.OK},
		{"a name before a range", []api.Land{land("a.", 9, 0, 0)}, api.ErrName},
		{"a range before an order", []api.Land{land("b.1", 0, 0, 0), land("a.1", 9, 0, 0)}, api.ErrRange},
		{"a name before an order", []api.Land{land("b.1", 0, 0, 0), land("a. ", 0, 0, 0)}, api.ErrName},
		{"a range before the next one's name", []api.Land{land("a.1", 9, 0, 0), land("a. ", 0, 0, 0)}, api.ErrRange},
		{"an order before the next one's name", []api.Land{land("b.1", 0, 0, 0), land("a.1", 0, 0, 0), land(".", 0, 0, 0)}, api.ErrOrder},
	} {
		wantFault(t, c.what, copper.CheckArt(api.Art{Coppers: make([][]api.Rect, 2), Lands: c.lands}), c.want)
	}
}

// C1: bores through a common copper must not have a square in common, plated or not; their sides can touch.
func TestBoresThatClash(t *testing.T) {
	for _, c := range []struct {
		what string
		a, b api.Bore
		want api.Fault
	}{
		{"the same", bore(0, 0, 2, 0, 1), bore(0, 0, 2, 0, 1), api.ErrClash},
		{"one within the other", bore(0, 0, 9, 0, 1), bore(1, 1, 1, 1, 2), api.ErrClash},
		{"a corner", bore(0, 0, 2, 0, 0), bore(1, 1, 2, 0, 0), api.ErrClash},
		{"side by side", bore(0, 0, 2, 0, 0), bore(2, 0, 2, 0, 0), api.OK},
		{"one above the other", bore(0, 0, 2, 0, 0), bore(0, 2, 2, 0, 0), api.OK},
		{"corners that touch", bore(0, 0, 2, 0, 0), bore(2, 2, 2, 0, 0), api.OK},
		{"a square in common at a side", bore(0, 0, 2, 0, 0), bore(2, 0, 4, 0, 0), api.ErrClash},
		{"an odd size beside it", bore(0, 0, 2, 0, 0), bore(2, 0, 3, 0, 0), api.OK},
		{"through other coppers", bore(0, 0, 2, 0, 0), bore(0, 0, 2, 1, 2), api.OK},
		{"through other coppers, the lower one first", bore(0, 0, 2, 2, 2), bore(0, 0, 2, 0, 1), api.OK},
		{"through one copper in common", bore(0, 0, 2, 0, 1), bore(0, 0, 2, 1, 2), api.ErrClash},
		{"through all", bore(0, 0, 2, 0, 2), bore(0, 0, 2, 1, 1), api.ErrClash},
		{"not plated", plain(0, 0, 2, 0, 1), plain(0, 0, 2, 1, 2), api.ErrClash},
		{"one of them plated", plain(0, 0, 2, 0, 1), bore(0, 0, 2, 1, 2), api.ErrClash},
	} {
		for range 2 {
			a := boardWith(bore(50, 50, 2, 0, 2), c.a, bore(60, 60, 2, 0, 2), c.b)
			a.Coppers = make([][]api.Rect, 3)
			wantFault(t, c.what, copper.CheckArt(a), c.want)
			c.a, c.b = c.b, c.a
		}
	}
}

// C1: random bores clash just if the model has a square in both.
func TestClashModel(t *testing.T) {
	tried(t, 400, func(rnd *rand.Rand) {
		a := api.Art{Coppers: make([][]api.Rect, 3)}
		for range 3 {
			from := rnd.IntN(3)
			a.Bores = append(a.Bores, bore(rnd.IntN(8)-4, rnd.IntN(8)-4, 1+rnd.IntN(4), from, from+rnd.IntN(3-from)))
		}
		taken, fault := map[spot]bool{}, api.OK
		for _, b := range a.Bores {
			for _, s := range boreSpots(b) {
				if taken[s] {
					fault = api.ErrClash
				}
				taken[s] = true
			}
		}
		wantFault(t, fmt.Sprint(a.Bores), copper.CheckArt(a), fault)
	})
}

// row is so many bores beside one another, through one copper.
func row(many int) []api.Bore {
	var out []api.Bore
	for i := range many {
		out = append(out, bore(2*i, 0, 1, 0, 0))
	}
	return out
}

// manyLands are in order, on no copper.
func manyLands(many int) []api.Land {
	var out []api.Land
	for i := range many {
		out = append(out, land(fmt.Sprintf("p%04d.1", i), 0, 0, 9))
	}
	return out
}

// cut is strips on a layer, and a square bore through so many of them: each of these becomes two pieces.
func cut(many, through int) ([]api.Rect, api.Bore) {
	const size = api.MaxHoleSize
	return strips(many, 0, -size, size), bore(2*through-1-size/2, 0, size, 0, 0)
}

// C1: boards at each bound and one past it.
func TestBounds(t *testing.T) {
	hold := func(what string, a api.Art, want api.Fault) {
		t.Helper()
		wantFault(t, what, copper.CheckArt(a), want)
	}
	hold("as many coppers as can be", api.Art{Coppers: make([][]api.Rect, api.MaxCoppers), Bores: []api.Bore{bore(0, 0, 1, 0, api.MaxCoppers-1)}, Lands: []api.Land{land("a.1", api.MaxCoppers-1, 0, 0)}}, api.OK)
	hold("too many coppers", api.Art{Coppers: make([][]api.Rect, api.MaxCoppers+1)}, api.ErrLarge)
	const half = api.MaxRects / 2
	one, two, more := strips(half, 0, 0, 9), strips(half, 0, 20, 30), strips(half+1, 0, 20, 30)
	hold("as many rectangles as can be", api.Art{Coppers: [][]api.Rect{one, two}}, api.OK)
	hold("too many rectangles", api.Art{Coppers: [][]api.Rect{one, more}}, api.ErrLarge)
	hold("too many rectangles with the outline", api.Art{Coppers: [][]api.Rect{one, two}, Outline: strips(1, 0, 0, 1)}, api.ErrLarge)
	hold("as many as can be with the outline", api.Art{Coppers: [][]api.Rect{one}, Outline: two}, api.OK)
	hold("too many of both", api.Art{Coppers: [][]api.Rect{one}, Outline: more}, api.ErrLarge)
	hold("one copper of all rectangles", api.Art{Coppers: [][]api.Rect{strips(api.MaxRects, 0, 0, 9)}}, api.OK)
	hold("one copper of too many", api.Art{Coppers: [][]api.Rect{strips(api.MaxRects+1, 0, 0, 9)}}, api.ErrLarge)
	hold("an outline of all", api.Art{Coppers: make([][]api.Rect, 1), Outline: strips(api.MaxRects, 0, 0, 9)}, api.OK)
	hold("as many bores as can be", boardWith(row(api.MaxBores)...), api.OK)
	hold("too many bores", boardWith(row(api.MaxBores+1)...), api.ErrLarge)
	hold("as many lands as can be", api.Art{Coppers: make([][]api.Rect, 1), Lands: manyLands(api.MaxLands)}, api.OK)
	hold("too many lands", api.Art{Coppers: make([][]api.Rect, 1), Lands: manyLands(api.MaxLands + 1)}, api.ErrLarge)
}

// C1: what bores leave at the bounds, and one past them.
func TestBoundsOfWhatIsLeft(t *testing.T) {
	const many = 700 // strips, so many rectangles below, beside and above a bore
	through := 3*many - api.MaxRects
	copperOf, b := cut(many, through)
	a := api.Art{Coppers: [][]api.Rect{copperOf}, Bores: []api.Bore{b}}
	left, f := copper.Drilled(a)
	wantFault(t, "as many rectangles as can be left", f, api.OK)
	want(t, "rectangles", len(left[0]), api.MaxRects)
	_, a.Bores[0] = cut(many, through-1)
	wantFault(t, "too many left", copper.CheckArt(a), api.ErrLarge)
	a.Bores[0].Plated = false
	wantFault(t, "too many left by a bore that is not plated", copper.CheckArt(a), api.ErrLarge)

	const quarter = api.MaxPieces / 4
	copperOf, b = cut(quarter, quarter)
	b.To = 1
	a = api.Art{Coppers: [][]api.Rect{copperOf, copperOf, nil}, Bores: []api.Bore{b}}
	pieces, f := copper.Pieces(a)
	wantFault(t, "as many pieces as can be", f, api.OK)
	want(t, "pieces", len(pieces), api.MaxPieces)
	want(t, "groups", len(groupsOf(t, a)), 1)
	for layer := range a.Coppers {
		more, f := copper.With(a, layer, region(rect(-9, 20000, -8, 20001)))
		wantWrong(t, "too many pieces", more, f, api.ErrLarge)
	}
	a.Coppers[2] = region(rect(-9, 20000, -8, 20001))
	wantFault(t, "too many pieces", copper.CheckArt(a), api.ErrLarge)
}

// breach makes a fault on the board some, which has a layer without copper at last.
type breach struct {
	what  string
	fault api.Fault
	do    func(a *api.Art)
}

// noRegions are the faults of CheckRegion, where one of the regions of a board is set.
func noRegions(what string, set func(a *api.Art, r []api.Rect)) []breach {
	one := func(fault api.Fault, r ...api.Rect) breach {
		return breach{what, fault, func(a *api.Art) { set(a, r) }}
	}
	return []breach{
		one(api.ErrLarge, strips(api.MaxRects+1, 0, 0, 1)...),
		one(api.ErrRange, rect(0, 0, api.MaxAt+1, 1)),
		one(api.ErrZero, rect(0, 0, 0, 1)),
		one(api.ErrOrder, rect(5, 0, 6, 1), rect(0, 0, 1, 1)),
		one(api.ErrForm, rect(0, 0, 1, 1), rect(1, 0, 2, 1)),
	}
}

// breaches are faults of CheckArt in its order. A board with two of them has that of the first one.
func breaches() []breach {
	return slices.Concat([]breach{
		{"no coppers", api.ErrNone, func(a *api.Art) { a.Coppers = nil }},
		{"too many coppers", api.ErrLarge, func(a *api.Art) { a.Coppers = append(a.Coppers, make([][]api.Rect, api.MaxCoppers)...) }},
	},
		noRegions("the first copper", func(a *api.Art, r []api.Rect) { a.Coppers[0] = r }),
		noRegions("the second copper", func(a *api.Art, r []api.Rect) { a.Coppers[1] = r }),
		noRegions("the outline", func(a *api.Art, r []api.Rect) { a.Outline = r }),
		breachesBehindRegions())
}

func breachesBehindRegions() []breach {
	return []breach{
		{"too many rectangles together", api.ErrLarge, func(a *api.Art) { a.Outline = strips(api.MaxRects-3, 0, 0, 1) }},
		{"too many bores", api.ErrLarge, func(a *api.Art) { a.Bores = append(a.Bores, row(api.MaxBores)...) }},
		{"a bore's size", api.ErrRange, func(a *api.Art) { a.Bores[0].Size = 0 }},
		{"a bore's end", api.ErrRange, func(a *api.Art) { a.Bores[1].To = api.MaxCoppers }},
		{"too many lands", api.ErrLarge, func(a *api.Art) { a.Lands = append(a.Lands, manyLands(api.MaxLands)...) }},
		{"a part's name", api.ErrName, func(a *api.Art) { a.Lands[0].Part = "" }},
		{"a pin's name", api.ErrName, func(a *api.Art) { a.Lands[0].Pin = "" }},
		{"a land's layer", api.ErrRange, func(a *api.Art) { a.Lands[1].Layer = api.MaxCoppers }},
		{"a land's place", api.ErrRange, func(a *api.Art) { a.Lands[1].At.Y = api.MaxAt + 1 }},
		{"the order of lands", api.ErrOrder, func(a *api.Art) { a.Lands[3].Part = "a" }},
		{"a later land's name", api.ErrName, func(a *api.Art) { a.Lands[4].Part = "" }},
		{"bores that clash", api.ErrClash, func(a *api.Art) { a.Bores[2].At = a.Bores[3].At }},
		{"too much left", api.ErrLarge, func(a *api.Art) {
			last := len(a.Coppers)
			a.Coppers = append(a.Coppers, strips(700, 1000, 0, 9))
			a.Bores = append(a.Bores, bore(1001, 5, 2, last, last))
		}},
	}
}

// C1: each fault, and each one before those that come behind it.
func TestOrderOfFaults(t *testing.T) {
	wantFault(t, "no fault", copper.CheckArt(some()), api.OK)
	all := breaches()
	for i, first := range all {
		a := some()
		first.do(&a)
		wantFault(t, first.what, copper.CheckArt(a), first.fault)
		for _, second := range all[i+1:] {
			if second.what == first.what {
				continue
			}
			a := some()
			second.do(&a)
			first.do(&a)
			wantFault(t, first.what+" and "+second.what, copper.CheckArt(a), first.fault)
		}
	}
}
