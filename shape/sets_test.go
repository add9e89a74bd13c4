package shape

import (
	"math"
	"math/rand/v2"
	"slices"
	"testing"

	"etchhouse/api"
)

func TestSets(t *testing.T) {
	a, b := []api.Rect{rect(0, 0, 3, 2)}, []api.Rect{rect(2, 1, 4, 3)}
	got, f := Union(a, b)
	wantRegion(t, "Union", got, f, []api.Rect{rect(0, 0, 3, 1), rect(0, 1, 4, 2), rect(2, 2, 4, 3)})
	got, f = Both(a, b)
	wantRegion(t, "Both", got, f, []api.Rect{rect(2, 1, 3, 2)})
	got, f = Minus(a, b)
	wantRegion(t, "Minus", got, f, []api.Rect{rect(0, 0, 3, 1), rect(0, 1, 2, 2)})
	got, f = Minus(b, a)
	wantRegion(t, "Minus the other way", got, f, []api.Rect{rect(3, 1, 4, 2), rect(2, 2, 4, 3)})
}

func TestSetsWithNothing(t *testing.T) {
	a := []api.Rect{rect(0, 0, 3, 2)}
	got, f := Union(a, nil)
	wantRegion(t, "Union", got, f, a)
	got, f = Both(a, []api.Rect{})
	wantRegion(t, "Both", got, f, nil)
	got, f = Minus(a, nil)
	wantRegion(t, "Minus", got, f, a)
	got, f = Minus(nil, a)
	wantRegion(t, "Minus from nothing", got, f, nil)
	got, f = Minus(a, a)
	wantRegion(t, "Minus itself", got, f, nil)
}

func TestRandomSets(t *testing.T) {
	tried(t, 500, func(r *rand.Rand) {
		a, b := randomRegion(r, 5), randomRegion(r, 5)
		inA, inB := squaresOf(a), squaresOf(b)
		of := func(is func(a, b bool) bool) []api.Rect {
			return within(6, func(p api.Point) bool { return is(inA[p], inB[p]) }).region()
		}
		union, f := Union(a, b)
		wantRegion(t, "Union", union, f, of(func(a, b bool) bool { return a || b }))
		both, f := Both(a, b)
		wantRegion(t, "Both", both, f, of(func(a, b bool) bool { return a && b }))
		less, f := Minus(a, b)
		wantRegion(t, "Minus", less, f, of(func(a, b bool) bool { return a && !b }))
		if area(t, union)+area(t, both) != area(t, a)+area(t, b) {
			t.Errorf("%v, %v: areas differ", a, b)
		}
		made, f := Union(less, both)
		wantRegion(t, "what is not in b, and what is", made, f, a)
		apart, f := Both(less, both)
		wantRegion(t, "in both of them", apart, f, nil)
	})
}

func area(t *testing.T, r []api.Rect) int {
	t.Helper()
	n, f := Area(r)
	if f != api.OK {
		t.Errorf("Area: fault %d", f)
	}
	return n
}

func TestSetFaults(t *testing.T) {
	good := []api.Rect{rect(0, 0, 1, 1)}
	for name, f := range map[string]func(a, b []api.Rect) ([]api.Rect, api.Fault){"Union": Union, "Both": Both, "Minus": Minus} {
		for _, c := range bad() {
			got, fault := f(c.r, good)
			wantFault(t, name+": a "+c.what, got, fault, c.f)
			got, fault = f(good, c.r)
			wantFault(t, name+": b "+c.what, got, fault, c.f)
		}
		got, fault := f([]api.Rect{rect(0, 0, 0, 1)}, []api.Rect{rect(0, 0, api.MaxAt+1, 1)})
		wantFault(t, name+": a before b", got, fault, api.ErrZero)
	}
}

func TestSetsAtTheBound(t *testing.T) {
	half := column(0, api.MaxRects/2)
	got, f := Union(half, column(5, api.MaxRects/2))
	if f != api.OK || len(got) != api.MaxRects {
		t.Errorf("Union: %d rectangles, fault %d", len(got), f)
	}
	got, f = Union(half, column(5, api.MaxRects/2+1))
	wantFault(t, "Union of one more", got, f, api.ErrLarge)
	whole := []api.Rect{rect(-10, -10, 100, 10000)}
	got, f = Minus(whole, column(5, 666))
	if f != api.OK || len(got) != 3*666+1 {
		t.Errorf("Minus: %d rectangles, fault %d", len(got), f)
	}
	got, f = Minus(whole, column(5, 667))
	wantFault(t, "Minus of one more", got, f, api.ErrLarge)
	rows, columns := grille(45)
	got, f = Both(rows, columns)
	wantFault(t, "Both", got, f, api.ErrLarge)
	if got, f = Both(rows[:44], columns); f != api.OK || len(got) != 44*45 {
		t.Errorf("Both: %d rectangles, fault %d", len(got), f)
	}
}

// grille has so many rows, and as many columns, that cross each other.
func grille(many int) (rows, columns []api.Rect) {
	for i := range many {
		rows = append(rows, rect(0, 2*i, 2*many, 2*i+1))
		columns = append(columns, rect(2*i, 0, 2*i+1, 2*many))
	}
	return rows, columns
}

func TestArea(t *testing.T) {
	const m = api.MaxAt
	for _, c := range []struct {
		r    []api.Rect
		want int
	}{
		{nil, 0},
		{[]api.Rect{rect(0, 0, 2, 1), rect(0, 1, 1, 2)}, 3},
		{[]api.Rect{rect(-m, -m, m, m)}, 4 * m * m},
	} {
		if n := area(t, c.r); n != c.want {
			t.Errorf("%v: %d", c.r, n)
		}
	}
	for _, c := range bad() {
		if n, f := Area(c.r); f != c.f || n != 0 {
			t.Errorf("%s: %d, fault %d", c.what, n, f)
		}
	}
}

func TestHas(t *testing.T) {
	r := []api.Rect{rect(0, 0, 2, 1), rect(0, 1, 1, 2)}
	for _, p := range within(3, func(api.Point) bool { return true }).sorted() {
		want := p == point(0, 0) || p == point(1, 0) || p == point(0, 1)
		if is, f := Has(r, p); f != api.OK || is != want {
			t.Errorf("%v: %v, fault %d", p, is, f)
		}
	}
	const m = api.MaxAt
	whole := []api.Rect{rect(-m, -m, m, m)}
	for _, c := range []struct {
		p    api.Point
		want bool
		f    api.Fault
	}{
		{point(-m, -m), true, api.OK},
		{point(m-1, m-1), true, api.OK},
		{point(m, 0), false, api.OK},
		{point(0, m), false, api.OK},
		{point(m+1, 0), false, api.ErrRange},
		{point(0, m+1), false, api.ErrRange},
		{point(-m-1, 0), false, api.ErrRange},
		{point(0, -m-1), false, api.ErrRange},
		{point(math.MinInt, math.MaxInt), false, api.ErrRange},
	} {
		if is, f := Has(whole, c.p); f != c.f || is != c.want {
			t.Errorf("%v: %v, fault %d", c.p, is, f)
		}
	}
	for _, c := range bad() {
		if is, f := Has(c.r, point(m+1, 0)); f != c.f || is {
			t.Errorf("%s: %v, fault %d", c.what, is, f)
		}
	}
}

func TestBounds(t *testing.T) {
	r := region(t, rect(3, 0, 4, 1), rect(-2, 5, 0, 9), rect(1, 2, 7, 3))
	if b, ok, f := Bounds(r); f != api.OK || !ok || b != rect(-2, 0, 7, 9) {
		t.Errorf("Bounds: %v, %v, fault %d", b, ok, f)
	}
	if b, ok, f := Bounds(nil); f != api.OK || ok || b != (api.Rect{}) {
		t.Errorf("Bounds of nothing: %v, %v, fault %d", b, ok, f)
	}
	for _, c := range bad() {
		if b, ok, f := Bounds(c.r); f != c.f || ok || b != (api.Rect{}) {
			t.Errorf("%s: %v, %v, fault %d", c.what, b, ok, f)
		}
	}
	if !slices.Equal(r, region(t, r...)) {
		t.Errorf("Bounds changed its argument")
	}
}
