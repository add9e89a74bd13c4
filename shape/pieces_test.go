package shape

import (
	"math/rand/v2"
	"slices"
	"testing"

	"etchhouse/api"
)

func wantRegions(t *testing.T, what string, got [][]api.Rect, f api.Fault, want [][]api.Rect) {
	t.Helper()
	if f != api.OK || !slices.EqualFunc(got, want, slices.Equal) {
		t.Errorf("%s: %v, fault %d, want %v", what, got, f, want)
	}
}

func TestPieces(t *testing.T) {
	got, f := Pieces([]api.Rect{rect(0, 0, 2, 1), rect(0, 1, 1, 2)})
	wantRegions(t, "the example", got, f, [][]api.Rect{{rect(0, 0, 2, 1), rect(0, 1, 1, 2)}})
	got, f = Pieces(nil)
	wantRegions(t, "nothing", got, f, nil)
	got, f = Pieces([]api.Rect{rect(1, 0, 2, 1), rect(0, 1, 1, 2), rect(2, 1, 3, 2)})
	wantRegions(t, "corners do not touch", got, f, [][]api.Rect{{rect(1, 0, 2, 1)}, {rect(0, 1, 1, 2)}, {rect(2, 1, 3, 2)}})
	got, f = Pieces(region(t, rect(5, 0, 6, 4), rect(0, 1, 1, 2)))
	wantRegions(t, "a piece that another one has cut", got, f, [][]api.Rect{{rect(5, 0, 6, 4)}, {rect(0, 1, 1, 2)}})
	// Three legs that are joined only above, in an order in which the last leg is found first.
	legs := region(t, rect(0, 2, 1, 9), rect(2, 1, 3, 9), rect(4, 0, 5, 9), rect(0, 8, 5, 9))
	got, f = Pieces(legs)
	wantRegions(t, "legs", got, f, [][]api.Rect{legs})
}

func TestHoles(t *testing.T) {
	ring := func(x, y, size int) []api.Rect {
		return []api.Rect{rect(x, y, x+size, y+1), rect(x, y+size-1, x+size, y+size), rect(x, y, x+1, y+size), rect(x+size-1, y, x+size, y+size)}
	}
	got, f := Holes(region(t, ring(0, 0, 3)...))
	wantRegions(t, "a ring", got, f, [][]api.Rect{{rect(1, 1, 2, 2)}})
	got, f = Holes(region(t, append(ring(0, 0, 9), ring(3, 3, 3)...)...))
	wantRegions(t, "a ring within a ring", got, f, [][]api.Rect{
		{rect(1, 1, 8, 3), rect(1, 3, 3, 6), rect(6, 3, 8, 6), rect(1, 6, 8, 8)},
		{rect(4, 4, 5, 5)},
	})
	got, f = Holes(nil)
	wantRegions(t, "nothing", got, f, nil)
	got, f = Holes([]api.Rect{rect(0, 0, 5, 5)})
	wantRegions(t, "a plate", got, f, nil)
	// A bay open to one of the four sides is no hole.
	for _, open := range []api.Rect{rect(2, 0, 3, 3), rect(2, 2, 3, 5), rect(0, 2, 3, 3), rect(2, 2, 5, 3)} {
		bay, f := Minus([]api.Rect{rect(0, 0, 5, 5)}, []api.Rect{open})
		if f != api.OK {
			t.Fatalf("Minus: fault %d", f)
		}
		got, f = Holes(bay)
		wantRegions(t, "a bay", got, f, nil)
	}
	// What is in reach of the outside at a corner alone is a hole, and so are two holes that touch at a corner.
	got, f = Holes([]api.Rect{rect(1, 0, 3, 1), rect(0, 1, 1, 2), rect(2, 1, 3, 2), rect(0, 2, 3, 3)})
	wantRegions(t, "a gap at a corner", got, f, [][]api.Rect{{rect(1, 1, 2, 2)}})
	got, f = Holes(plateWithout(t, rect(0, 0, 4, 4), rect(1, 1, 2, 2), rect(2, 2, 3, 3)))
	wantRegions(t, "two holes", got, f, [][]api.Rect{{rect(1, 1, 2, 2)}, {rect(2, 2, 3, 3)}})
}

// plateWithout returns a plate without two rectangles.
func plateWithout(t *testing.T, plate, a, b api.Rect) []api.Rect {
	t.Helper()
	out, f := Minus([]api.Rect{plate}, region(t, a, b))
	if f != api.OK {
		t.Fatalf("Minus: fault %d", f)
	}
	return out
}

func TestRandomPiecesAndHoles(t *testing.T) {
	tried(t, 400, func(r *rand.Rand) {
		a := randomRegion(r, 5)
		s := squaresOf(a)
		got, f := Pieces(a)
		wantRegions(t, "Pieces", got, f, regionsOf(s.parts()))
		free := within(7, func(p api.Point) bool { return !s[p] }).parts()
		free = slices.DeleteFunc(free, func(s squares) bool { return s[point(7, 7)] })
		got, f = Holes(a)
		wantRegions(t, "Holes", got, f, regionsOf(free))
	})
}

func regionsOf(l []squares) [][]api.Rect {
	var out [][]api.Rect
	for _, s := range l {
		out = append(out, s.region())
	}
	return out
}

func TestManyPieces(t *testing.T) {
	got, f := Pieces(column(0, api.MaxRects))
	if f != api.OK || len(got) != api.MaxRects {
		t.Errorf("Pieces: %d, fault %d", len(got), f)
	}
	plate, f := Minus([]api.Rect{rect(-10, -10, 100, 10000)}, column(5, 666))
	if f != api.OK {
		t.Fatalf("Minus: fault %d", f)
	}
	got, f = Holes(plate)
	if f != api.OK || len(got) != 666 {
		t.Errorf("Holes: %d, fault %d", len(got), f)
	}
}

// At the bounds of the range there is an outside, too.
func TestHolesOfAllThereIs(t *testing.T) {
	const m = api.MaxAt
	got, f := Holes(plateWithout(t, rect(-m, -m, m, m), rect(0, 0, 1, 1), rect(m-1, 5, m, 6)))
	wantRegions(t, "Holes", got, f, [][]api.Rect{{rect(0, 0, 1, 1)}})
}

func TestPieceFaults(t *testing.T) {
	for _, c := range bad() {
		got, f := Pieces(c.r)
		wantFault(t, "Pieces: "+c.what, got, f, c.f)
		got, f = Holes(c.r)
		wantFault(t, "Holes: "+c.what, got, f, c.f)
	}
}
