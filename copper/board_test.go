package copper_test

import (
	"fmt"
	"math"
	"math/rand/v2"
	"testing"

	"etchhouse/api"
	"etchhouse/copper"
)

// C2: what is left of each layer, and its pieces.
func TestPieces(t *testing.T) {
	left, f := copper.Drilled(some())
	wantGood(t, "Drilled", left, f, [][]api.Rect{
		region(rect(0, 0, 3, 2), rect(7, 0, 10, 2), rect(20, 0, 30, 4), rect(20, 4, 24, 6), rect(26, 4, 30, 6), rect(20, 6, 30, 10), rect(40, 0, 50, 4), rect(40, 4, 44, 6), rect(46, 4, 50, 6), rect(40, 6, 50, 10)),
		region(rect(0, 0, 30, 4), rect(0, 4, 24, 6), rect(26, 4, 30, 6), rect(0, 6, 30, 10), rect(40, 0, 50, 4), rect(40, 4, 44, 6), rect(46, 4, 50, 6), rect(40, 6, 50, 10)),
		nil,
	})
	pieces, f := copper.Pieces(some())
	wantGood(t, "Pieces", pieces, f, []api.Piece{
		{Layer: 0, Area: 6}, {Layer: 0, First: api.Point{X: 7}, Area: 6}, {Layer: 0, First: api.Point{X: 20}, Area: 96}, {Layer: 0, First: api.Point{X: 40}, Area: 96},
		{Layer: 1, Area: 296}, {Layer: 1, First: api.Point{X: 40}, Area: 96},
	})
	for k, want := range [][]api.Rect{
		{rect(0, 0, 3, 2)}, {rect(7, 0, 10, 2)}, region(rect(20, 0, 30, 4), rect(20, 4, 24, 6), rect(26, 4, 30, 6), rect(20, 6, 30, 10)),
	} {
		r, f := copper.PieceRegion(some(), k)
		wantGood(t, fmt.Sprint("piece ", k), r, f, want)
	}
}

// C2: a bore takes away copper of all layers through which it goes, and of no other one, plated or not.
func TestDrilled(t *testing.T) {
	for _, plated := range []bool{true, false} {
		for from := range 4 {
			for to := from; to < 4; to++ {
				a := api.Art{Coppers: make([][]api.Rect, 4), Bores: []api.Bore{bore(-5, -4, 3, from, to)}}
				a.Bores[0].Plated = plated
				var whole [][]api.Rect
				for layer := range a.Coppers {
					a.Coppers[layer] = region(rect(-9, -9, 0, 0))
					if from <= layer && layer <= to {
						whole = append(whole, region(rect(-9, -9, 0, -5), rect(-9, -5, -6, -2), rect(-3, -5, 0, -2), rect(-9, -2, 0, 0)))
					} else {
						whole = append(whole, a.Coppers[layer])
					}
				}
				left, f := copper.Drilled(a)
				wantGood(t, fmt.Sprint(from, to, plated), left, f, whole)
			}
		}
	}
}

// C2: pieces have numbers layer by layer, in each by Y, then X; those that meet at a corner alone are two.
func TestOrderOfPieces(t *testing.T) {
	a := api.Art{Coppers: [][]api.Rect{
		region(rect(5, 0, 6, 9), rect(0, 1, 4, 2), rect(7, 1, 8, 2), rect(8, 2, 9, 3)),
		nil,
		region(rect(-3, -3, -1, -1), rect(-9, -2, -4, -1)),
	}}
	pieces, f := copper.Pieces(a)
	wantGood(t, "Pieces", pieces, f, []api.Piece{
		{Layer: 0, First: api.Point{X: 5, Y: 0}, Area: 9}, {Layer: 0, First: api.Point{X: 0, Y: 1}, Area: 4},
		{Layer: 0, First: api.Point{X: 7, Y: 1}, Area: 1}, {Layer: 0, First: api.Point{X: 8, Y: 2}, Area: 1},
		{Layer: 2, First: api.Point{X: -3, Y: -3}, Area: 4}, {Layer: 2, First: api.Point{X: -9, Y: -2}, Area: 5},
	})
	pieces, f = copper.Pieces(api.Art{Coppers: make([][]api.Rect, 3)})
	wantGood(t, "Pieces of no copper", pieces, f, nil)
	wide := rect(-api.MaxAt, -api.MaxAt, api.MaxAt, api.MaxAt)
	pieces, f = copper.Pieces(api.Art{Coppers: [][]api.Rect{{wide}}})
	wantGood(t, "Pieces of all", pieces, f, []api.Piece{{First: api.Point{X: wide.X0, Y: wide.Y0}, Area: 4 * api.MaxAt * api.MaxAt}})
}

// C2: a plated bore touches what lies at its sides, on the layers through which it goes.
func TestTouched(t *testing.T) {
	for i, want := range [][]int{{0, 1}, {2, 4}, nil, nil} {
		touched, f := copper.Touched(some(), i)
		wantGood(t, fmt.Sprint("bore ", i), touched, f, want)
	}
	square := squareOf(bore(0, 0, 4, 0, 0))
	for _, c := range []struct {
		what string
		r    api.Rect
		want []int
	}{
		{"at the left", rect(-5, 0, square.X0, 1), []int{0}},
		{"not quite at the left", rect(-5, 0, square.X0-1, 1), nil},
		{"at the right", rect(square.X1, 0, 9, 1), []int{0}},
		{"not quite at the right", rect(square.X1+1, 0, 9, 1), nil},
		{"below", rect(0, -9, 1, square.Y0), []int{0}},
		{"not quite below", rect(0, -9, 1, square.Y0-1), nil},
		{"above", rect(0, square.Y1, 1, 9), []int{0}},
		{"not quite above", rect(0, square.Y1+1, 1, 9), nil},
		{"at a corner", rect(square.X1, square.Y1, 9, 9), nil},
		{"at another corner", rect(-9, -9, square.X0, square.Y0), nil},
		{"at the last square of a side", rect(square.X1, square.Y1-1, 9, 9), []int{0}},
		{"wholly under it", rect(-1, -1, 1, 1), nil},
		{"a square too wide", rect(-1, -1, square.X1+1, 1), []int{0}},
		{"all around", rect(-9, -9, 9, 9), []int{0}},
	} {
		for layer, want := range [][]int{nil, c.want, c.want, nil} {
			a := api.Art{Coppers: make([][]api.Rect, 4), Bores: []api.Bore{bore(0, 0, 4, 1, 2), plain(0, 0, 4, 0, 0), plain(0, 0, 4, 3, 3)}}
			a.Coppers[layer] = []api.Rect{c.r}
			touched, f := copper.Touched(a, 0)
			wantGood(t, fmt.Sprint(c.what, " on layer ", layer), touched, f, want)
			for i := 1; i <= 2; i++ {
				touched, f = copper.Touched(a, i)
				wantGood(t, c.what+" of a bore that is not plated", touched, f, nil)
			}
		}
	}
}

// C2: numbers of no piece and of no bore.
func TestNoPiece(t *testing.T) {
	for _, n := range []int{-1, 6, 7, math.MinInt, math.MaxInt} {
		r, f := copper.PieceRegion(some(), n)
		wantWrong(t, fmt.Sprint("piece ", n), r, f, api.ErrNone)
	}
	for _, n := range []int{-1, 4, 5, math.MinInt, math.MaxInt} {
		l, f := copper.Touched(some(), n)
		wantWrong(t, fmt.Sprint("bore ", n), l, f, api.ErrNone)
	}
	none := api.Art{Coppers: make([][]api.Rect, 1)}
	r, f := copper.PieceRegion(none, 0)
	wantWrong(t, "a piece of none", r, f, api.ErrNone)
	l, f := copper.Touched(none, 0)
	wantWrong(t, "a bore of none", l, f, api.ErrNone)
}

// C2: what is left, pieces, and what bores touch are those of the model.
func TestPiecesModel(t *testing.T) {
	tried(t, 600, func(rnd *rand.Rand) {
		a := randomArt(rnd)
		m := modelOf(a)
		left, f := copper.Drilled(a)
		wantFault(t, "Drilled", f, api.OK)
		want(t, "coppers", len(left), len(a.Coppers))
		for layer := range left {
			want(t, fmt.Sprint("Drilled ", layer), left[layer], m.leftOf(layer))
		}
		pieces, f := copper.Pieces(a)
		wantFault(t, "Pieces", f, api.OK)
		want(t, "pieces", len(pieces), len(m.pieces))
		for k := range min(len(pieces), len(m.pieces)) {
			want(t, fmt.Sprint("piece ", k), pieces[k], m.piece(k))
			r, f := copper.PieceRegion(a, k)
			wantGood(t, fmt.Sprint("region of piece ", k), r, f, regionOf(m.pieces[k]))
		}
		for i := range a.Bores {
			touched, f := copper.Touched(a, i)
			wantGood(t, fmt.Sprint("Touched ", i), touched, f, m.touched(i))
		}
		if t.Failed() {
			t.Logf("%+v", a)
		}
	})
}

// C1, C2: bores whose squares are too many rectangles for one region, with a little copper left between them.
func TestManyHeights(t *testing.T) {
	const columns, rows, size = 22, 22, 25
	a := api.Art{Coppers: [][]api.Rect{nil, nil}}
	var left []api.Rect
	for i := range columns {
		x := i * (size + 1)
		for j := range rows {
			y := j*(size+1) + i
			a.Bores = append(a.Bores, bore(x+size/2, y+size/2, size, 0, 1))
			left = append(left, rect(x+3, y-1, x+5, y))
		}
		a.Coppers[0] = append(a.Coppers[0], rect(x+3, -10, x+5, 700))
		left = append(left, rect(x+3, -10, x+5, i-1), rect(x+3, rows*(size+1)+i-1, x+5, 700))
	}
	got, f := copper.Drilled(a)
	wantGood(t, "Drilled", got, f, [][]api.Rect{region(left...), nil})
	pieces, f := copper.Pieces(a)
	wantFault(t, "Pieces", f, api.OK)
	want(t, "pieces", len(pieces), columns*(rows+1))
	a.Coppers[1] = region(rect(0, 0, columns*size, rows*size))
	wantFault(t, "copper around all of them", copper.CheckArt(a), api.ErrLarge)
	a.Coppers[1] = region(rect(0, 0, columns*size, 200))
	wantFault(t, "copper around the lower ones", copper.CheckArt(a), api.ErrLarge)
	a.Coppers[1] = region(rect(0, 400, columns*size, rows*size))
	wantFault(t, "copper around the upper ones", copper.CheckArt(a), api.ErrLarge)
}

// C1, C2: so it is with bores that all begin, or all end, at one height.
func TestManySizes(t *testing.T) {
	for _, ending := range []bool{true, false} {
		a := api.Art{Coppers: [][]api.Rect{nil}}
		var left []api.Rect
		for size := 1; size <= 100; size++ {
			x, y := 101*size, size/2
			strip := rect(x, 0, x+1, 100)
			rest := rect(x, size, x+1, 100)
			if ending {
				y = size/2 - size
				strip, rest = rect(x, -100, x+1, 0), rect(x, -100, x+1, -size)
			}
			a.Bores = append(a.Bores, bore(x, y, size, 0, 0))
			if size%10 == 0 {
				a.Coppers[0] = append(a.Coppers[0], strip)
				left = append(left, rest)
			}
		}
		got, f := copper.Drilled(a)
		wantGood(t, fmt.Sprint("all end at one height: ", ending), got, f, [][]api.Rect{region(left[:9]...)})
	}
}
