package shape

import (
	"cmp"
	"math/rand/v2"
	"slices"
	"testing"

	"etchhouse/api"
)

// The model: a region as the set of its squares, worked on square by square.
type squares map[api.Point]bool

func squaresOf(l []api.Rect) squares {
	out := squares{}
	for _, r := range l {
		for y := r.Y0; y < r.Y1; y++ {
			for x := r.X0; x < r.X1; x++ {
				out[api.Point{X: x, Y: y}] = true
			}
		}
	}
	return out
}

func (s squares) sorted() []api.Point {
	var out []api.Point
	for p := range s {
		out = append(out, p)
	}
	slices.SortFunc(out, byYX)
	return out
}

func byYX(p, q api.Point) int {
	return cmp.Or(cmp.Compare(p.Y, q.Y), cmp.Compare(p.X, q.X))
}

// region joins the squares to rows, and rows to bands.
func (s squares) region() []api.Rect {
	var rows []api.Rect
	for _, p := range s.sorted() {
		if n := len(rows); n > 0 && rows[n-1].Y0 == p.Y && rows[n-1].X1 == p.X {
			rows[n-1].X1++
			continue
		}
		rows = append(rows, api.Rect{X0: p.X, Y0: p.Y, X1: p.X + 1, Y1: p.Y + 1})
	}
	var out, last []api.Rect
	for len(rows) > 0 {
		n := 0
		for n < len(rows) && rows[n].Y0 == rows[0].Y0 {
			n++
		}
		row := rows[:n]
		rows = rows[n:]
		if len(last) > 0 && last[0].Y1 == row[0].Y0 && sameX(last, row) {
			for i := range last {
				last[i].Y1++
			}
			continue
		}
		out = append(out, last...)
		last = slices.Clone(row)
	}
	return append(out, last...)
}

func sameX(a, b []api.Rect) bool {
	return slices.EqualFunc(a, b, func(x, y api.Rect) bool { return x.X0 == y.X0 && x.X1 == y.X1 })
}

// within returns the points from -size to size for which something is so.
func within(size int, is func(p api.Point) bool) squares {
	out := squares{}
	for y := -size; y <= size; y++ {
		for x := -size; x <= size; x++ {
			if p := (api.Point{X: x, Y: y}); is(p) {
				out[p] = true
			}
		}
	}
	return out
}

// distance of two squares, as S3 says it.
func distance(p, q api.Point) int {
	return max(p.X-q.X, q.X-p.X, p.Y-q.Y, q.Y-p.Y)
}

// parts by flooding, each by its least square, in order.
func (s squares) parts() []squares {
	var out []squares
	left := squares{}
	for p := range s {
		left[p] = true
	}
	for _, p := range s.sorted() {
		if !left[p] {
			continue
		}
		part := squares{}
		todo := []api.Point{p}
		for len(todo) > 0 {
			q := todo[0]
			todo = todo[1:]
			if !left[q] {
				continue
			}
			delete(left, q)
			part[q] = true
			todo = append(todo, api.Point{X: q.X + 1, Y: q.Y}, api.Point{X: q.X - 1, Y: q.Y}, api.Point{X: q.X, Y: q.Y + 1}, api.Point{X: q.X, Y: q.Y - 1})
		}
		out = append(out, part)
	}
	return out
}

func randomRects(r *rand.Rand, many, size int) []api.Rect {
	var out []api.Rect
	for range r.IntN(many + 1) {
		x, y := r.IntN(2*size)-size, r.IntN(2*size)-size
		out = append(out, api.Rect{X0: x, Y0: y, X1: min(size, x+1+r.IntN(4)), Y1: min(size, y+1+r.IntN(4))})
	}
	return out
}

// randomRegion has squares from -size to size - 1; every second one is a noise of single squares.
func randomRegion(r *rand.Rand, size int) []api.Rect {
	if r.IntN(2) == 0 {
		return squaresOf(randomRects(r, 12, size)).region()
	}
	s := within(size-1, func(api.Point) bool { return r.IntN(5) < 2 })
	return s.region()
}

// tried calls a function with many small random regions.
func tried(t *testing.T, times int, f func(r *rand.Rand)) {
	t.Helper()
	r := rand.New(rand.NewPCG(1, 2))
	for range times {
		if f(r); t.Failed() {
			return
		}
	}
}

func rect(x0, y0, x1, y1 int) api.Rect {
	return api.Rect{X0: x0, Y0: y0, X1: x1, Y1: y1}
}

func point(x, y int) api.Point {
	return api.Point{X: x, Y: y}
}

// region returns the region of some rectangles, which must be one.
func region(t *testing.T, l ...api.Rect) []api.Rect {
	t.Helper()
	out, f := Region(l)
	if f != api.OK {
		t.Fatalf("Region: fault %d", f)
	}
	return out
}

// wantRegion fails if a result is not this region.
func wantRegion(t *testing.T, what string, got []api.Rect, f api.Fault, want []api.Rect) {
	t.Helper()
	if f != api.OK || !slices.Equal(got, want) {
		t.Errorf("%s: %v, fault %d, want %v", what, got, f, want)
	}
}

// wantFault fails if a result has not just this fault.
func wantFault[E any](t *testing.T, what string, got []E, f, want api.Fault) {
	t.Helper()
	if f != want || len(got) != 0 {
		t.Errorf("%s: %d elements, fault %d, want none, fault %d", what, len(got), f, want)
	}
}

// column returns so many rectangles one over the other that do not touch: a region.
func column(x, many int) []api.Rect {
	var out []api.Rect
	for i := range many {
		out = append(out, rect(x, 2*i, x+1, 2*i+1))
	}
	return out
}

// bad has a region for each fault of CheckRegion.
func bad() []struct {
	what string
	r    []api.Rect
	f    api.Fault
} {
	return []struct {
		what string
		r    []api.Rect
		f    api.Fault
	}{
		{"too many", column(0, api.MaxRects+1), api.ErrLarge},
		{"out of range", []api.Rect{rect(0, 0, api.MaxAt+1, 1)}, api.ErrRange},
		{"no width", []api.Rect{rect(0, 0, 0, 1)}, api.ErrZero},
		{"not in order", []api.Rect{rect(0, 5, 1, 6), rect(0, 0, 1, 1)}, api.ErrOrder},
		{"not canonical", []api.Rect{rect(0, 0, 1, 1), rect(1, 0, 2, 1)}, api.ErrForm},
	}
}
