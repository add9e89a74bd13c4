package shape

import (
	"cmp"
	"math"
	"slices"

	"etchhouse/api"
)

// noLimit lets sweep make steps on the way to a result, which alone is limited.
const noLimit = math.MaxInt

// edge is a vertical side of a rectangle: whoever crosses it to the right enters (step 1) or leaves (step -1) a rectangle of a list.
type edge struct {
	x, y0, y1  int
	list, step int
}

// stretch is a part of a band, from one X to another one.
type stretch struct{ from, to int }

// keeper says from how many rectangles of two lists a square lies in whether a result has it; it must not keep 0, 0.
type keeper func(inA, inB int) bool

// combine returns the region of the squares that a keeper keeps.
func combine(a, b []api.Rect, keep keeper) ([]api.Rect, api.Fault) {
	out, ok := sweep(a, b, api.MaxRects, keep)
	if !ok {
		return nil, api.ErrLarge
	}
	return out, api.OK
}

func inFirst(inA, _ int) bool {
	return inA > 0
}

// sweep goes through two lists of rectangles from below to above, and returns the canonical form of what is kept; false as soon as this has more than most rectangles.
func sweep(a, b []api.Rect, most int, keep keeper) ([]api.Rect, bool) {
	coming := append(edgesOf(a, 0), edgesOf(b, 1)...)
	slices.SortFunc(coming, func(d, e edge) int {
		return cmp.Or(cmp.Compare(d.y0, e.y0), cmp.Compare(d.x, e.x))
	})
	heights := heightsOf(coming)
	var crossed []edge
	var out bands
	for i := 1; i < len(heights); i++ {
		low, high := heights[i-1], heights[i]
		n := startingAt(coming, low)
		crossed = merged(without(crossed, low), coming[:n])
		coming = coming[n:]
		if out.add(low, high, stretches(crossed, keep)); len(out.rects) > most {
			return nil, false
		}
	}
	return out.rects, true
}

func edgesOf(l []api.Rect, list int) []edge {
	out := make([]edge, 0, 2*len(l))
	for _, r := range l {
		out = append(out, edge{r.X0, r.Y0, r.Y1, list, 1}, edge{r.X1, r.Y0, r.Y1, list, -1})
	}
	return out
}

// heightsOf returns all heights at which edges begin or end, from below to above.
func heightsOf(l []edge) []int {
	out := make([]int, 0, 2*len(l))
	for _, e := range l {
		out = append(out, e.y0, e.y1)
	}
	slices.Sort(out)
	return slices.Compact(out)
}

// startingAt counts the edges at the beginning of a list that begin at a height.
func startingAt(l []edge, y int) int {
	n := 0
	for n < len(l) && l[n].y0 == y {
		n++
	}
	return n
}

// without removes, in place, the edges that end at a height.
func without(l []edge, y int) []edge {
	return slices.DeleteFunc(l, func(e edge) bool { return e.y1 == y })
}

// merged puts more edges into a list, both of them ordered by X. It works from the end on, where the list has room, since most edges stay for many bands.
func merged(l, more []edge) []edge {
	i, j := len(l), len(more)
	out := append(l, more...)
	for at := i + j - 1; j > 0; at-- {
		if i > 0 && out[i-1].x > more[j-1].x {
			i--
			out[at] = out[i]
		} else {
			j--
			out[at] = more[j]
		}
	}
	return out
}

// stretches returns what is kept along a row that crosses these edges, which are ordered by X.
func stretches(crossed []edge, keep keeper) []stretch {
	var out []stretch
	var in [2]int
	kept := false
	for i, e := range crossed {
		in[e.list] += e.step
		if i+1 < len(crossed) && crossed[i+1].x == e.x {
			continue
		}
		now := keep(in[0], in[1])
		if now && !kept {
			out = append(out, stretch{from: e.x})
		} else if !now && kept {
			out[len(out)-1].to = e.x
		}
		kept = now
	}
	return out
}

// bands is a canonical region that grows band by band.
type bands struct {
	rects []api.Rect
	last  int // where the last band begins
}

func (b *bands) add(low, high int, l []stretch) {
	if b.goesOn(low, l) {
		for i := b.last; i < len(b.rects); i++ {
			b.rects[i].Y1 = high
		}
		return
	}
	b.last = len(b.rects)
	for _, s := range l {
		b.rects = append(b.rects, api.Rect{X0: s.from, Y0: low, X1: s.to, Y1: high})
	}
}

// goesOn says whether the last band ends at a height and has just these stretches.
func (b *bands) goesOn(low int, l []stretch) bool {
	return slices.EqualFunc(b.rects[b.last:], l, func(r api.Rect, s stretch) bool {
		return r.Y1 == low && r.X0 == s.from && r.X1 == s.to
	})
}
