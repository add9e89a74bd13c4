package plot

import (
	"cmp"
	"math"
	"slices"

	"etchhouse/api"
)

// stretch is a part of a row, from one X to another one.
type stretch struct{ from, to int }

// band is all rows from low to high, which are the same. Bands of several fields can have one row: it is never changed.
type band struct {
	low, high int
	row       []stretch
}

// field is a region in its canonical form, by bands from below to above. Other than those of package shape it can have any number of rectangles: what a step draws has no bound, but the image behind it.
type field []band

// keeper says whether a square is kept that is in the first of two fields, or not, and in the second one, or not. It must keep what is in the first one alone, and must not keep what is in none.
type keeper func(inFirst, inSecond bool) bool

func inEither(inFirst, inSecond bool) bool { return inFirst || inSecond }

func inFirstAlone(inFirst, inSecond bool) bool { return inFirst && !inSecond }

func inOneAlone(inFirst, inSecond bool) bool { return inFirst != inSecond }

// gathered combines rectangles that have squares. It does so by halves, so that few fields are large.
func gathered(l []api.Rect, keep keeper) field {
	switch len(l) {
	case 0:
		return nil
	case 1:
		return field{{l[0].Y0, l[0].Y1, []stretch{{l[0].X0, l[0].X1}}}}
	}
	half := len(l) / 2
	return combined(gathered(l[:half], keep), gathered(l[half:], keep), keep)
}

// combined returns what is kept of two fields.
func combined(a, b field, keep keeper) field {
	out := make(field, 0, len(a)+len(b))
	for y := math.MinInt; len(a) > 0 || len(b) > 0; {
		rowA, endA := a.rowAt(y)
		rowB, endB := b.rowAt(y)
		end := min(endA, endB)
		out = out.with(band{y, end, combinedRows(rowA, rowB, keep)})
		a, b, y = a.above(end), b.above(end), end
	}
	return out
}

// rowAt returns the row at a height that is not above the first band, and up to where it goes.
func (f field) rowAt(y int) ([]stretch, int) {
	switch {
	case len(f) == 0:
		return nil, math.MaxInt
	case y < f[0].low:
		return nil, f[0].low
	}
	return f[0].row, f[0].high
}

// above returns a field without its first band, if this ends at a height.
func (f field) above(y int) field {
	if len(f) > 0 && f[0].high == y {
		return f[1:]
	}
	return f
}

// with puts a band, or nothing if it is empty, on top of a field.
func (f field) with(b band) field {
	if len(b.row) == 0 {
		return f
	}
	last := len(f) - 1
	if last >= 0 && f[last].high == b.low && slices.Equal(f[last].row, b.row) {
		f[last].high = b.high
		return f
	}
	return append(f, b)
}

// combinedRows returns what is kept of two rows. What is left and right of the second one stays: rows can be long, and most of what is drawn is not.
func combinedRows(a, b []stretch, keep keeper) []stretch {
	switch {
	case len(b) == 0:
		return a
	case len(a) == 0 && keep(false, true):
		return b
	case len(a) == 0:
		return nil
	}
	from, _ := slices.BinarySearchFunc(a, b[0].from, func(s stretch, x int) int { return cmp.Compare(s.to, x) })
	to, _ := slices.BinarySearchFunc(a, b[len(b)-1].to+1, func(s stretch, x int) int { return cmp.Compare(s.from, x) })
	out := make([]stretch, 0, len(a)+len(b)+1)
	out = append(out, a[:from]...)
	out = appendCombined(out, a[from:to], b, keep)
	return append(out, a[to:]...)
}

// appendCombined puts what is kept of two rows behind a row that does not touch them.
func appendCombined(out, a, b []stretch, keep keeper) []stretch {
	sideA, sideB := 0, 0 // how many sides of stretches are passed
	kept := false
	for sideA < 2*len(a) || sideB < 2*len(b) {
		xA, xB := sideOf(a, sideA), sideOf(b, sideB)
		x := min(xA, xB)
		if xA == x {
			sideA++
		}
		if xB == x {
			sideB++
		}
		now := keep(sideA%2 == 1, sideB%2 == 1)
		if now && !kept {
			out = append(out, stretch{from: x})
		} else if kept && !now {
			out[len(out)-1].to = x
		}
		kept = now
	}
	return out
}

// sideOf returns where the side with a number, from 0 on, of the stretches of a row is.
func sideOf(row []stretch, number int) int {
	switch {
	case number/2 >= len(row):
		return math.MaxInt
	case number%2 == 0:
		return row[number/2].from
	}
	return row[number/2].to
}

// moved returns a field at another place.
func (f field) moved(by api.Point) field {
	return mapped(f, func(b band) band {
		row := mapped(b.row, func(s stretch) stretch { return stretch{s.from + by.X, s.to + by.X} })
		return band{b.low + by.Y, b.high + by.Y, row}
	})
}

// near returns from which band to which one (without it) a field lies within some heights, or touches them.
func (f field) near(low, high int) (int, int) {
	from, _ := slices.BinarySearchFunc(f, low, func(b band, y int) int { return cmp.Compare(b.high, y) })
	to, _ := slices.BinarySearchFunc(f, high+1, func(b band, y int) int { return cmp.Compare(b.low, y) })
	return from, to
}

// rowAcross returns the row of the band that lies on both sides of a height.
func (f field) rowAcross(y int) []stretch {
	i, _ := f.near(y+1, y+1)
	if i < len(f) && f[i].low < y {
		return f[i].row
	}
	return nil
}

// count returns how many rectangles a field has.
func (f field) count() int {
	n := 0
	for _, b := range f {
		n += len(b.row)
	}
	return n
}

func (f field) rects() []api.Rect {
	out := make([]api.Rect, 0, f.count())
	for _, b := range f {
		for _, s := range b.row {
			out = append(out, api.Rect{X0: s.from, Y0: b.low, X1: s.to, Y1: b.high})
		}
	}
	return out
}

// box returns the least rectangle around a field.
func (f field) box() api.Rect {
	if len(f) == 0 {
		return api.Rect{}
	}
	out := api.Rect{X0: math.MaxInt, Y0: f[0].low, X1: math.MinInt, Y1: f[len(f)-1].high}
	for _, b := range f {
		out.X0 = min(out.X0, b.row[0].from)
		out.X1 = max(out.X1, b.row[len(b.row)-1].to)
	}
	return out
}

// hull returns the least rectangle around two of them.
func hull(a, b api.Rect) api.Rect {
	return api.Rect{X0: min(a.X0, b.X0), Y0: min(a.Y0, b.Y0), X1: max(a.X1, b.X1), Y1: max(a.Y1, b.Y1)}
}

func overlap(a, b api.Rect) bool {
	return max(a.X0, b.X0) < min(a.X1, b.X1) && max(a.Y0, b.Y0) < min(a.Y1, b.Y1)
}
