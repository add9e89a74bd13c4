package plot

import (
	"cmp"
	"slices"
	"testing"

	"etchhouse/api"
	"etchhouse/shape"
)

// model draws a plot square by square, just as P2 says it.
type model struct {
	plot    api.Plot
	squares map[api.Point]bool
	dark    bool
	tool    []api.Rect
	placed  bool
	place   api.Point
	off, on int
}

// modelOf returns what is drawn, and the fault.
func modelOf(p api.Plot) (*model, api.Fault) {
	m := &model{plot: p, squares: map[api.Point]bool{}, dark: true}
	return m, m.steps(p.Steps, point(0, 0))
}

func (m *model) steps(l []api.PlotStep, by api.Point) api.Fault {
	for _, s := range l {
		if f := m.step(s, by); f != api.OK {
			return f
		}
	}
	return api.OK
}

func (m *model) step(s api.PlotStep, by api.Point) api.Fault {
	unit := m.plot.Unit
	to := point(s.At.X*unit+by.X, s.At.Y*unit+by.Y)
	switch s.Kind {
	case api.StepDark:
		m.dark = true
	case api.StepClear:
		m.dark = false
	case api.StepUse:
		i := slices.IndexFunc(m.plot.Tools, func(t api.PlotTool) bool { return t.Name == s.Name })
		m.tool = m.plot.Tools[i].Rects
	case api.StepMove:
		m.reach(to, &m.off)
	case api.StepFlash:
		if m.tool == nil {
			return api.ErrState
		}
		m.reach(to, &m.off)
		m.stamp(to)
	case api.StepLine:
		return m.line(to)
	case api.StepArea:
		m.area(s.Points, by)
	case api.StepRepeat:
		for j := range s.NY {
			for i := range s.NX {
				if f := m.steps(s.Steps, point(by.X+i*s.At.X*unit, by.Y+j*s.At.Y*unit)); f != api.OK {
					return f
				}
			}
		}
	}
	return api.OK
}

func (m *model) reach(to api.Point, far *int) {
	if m.placed {
		*far += max(to.X-m.place.X, m.place.X-to.X) + max(to.Y-m.place.Y, m.place.Y-to.Y)
	}
	m.placed, m.place = true, to
}

func (m *model) line(to api.Point) api.Fault {
	if m.tool == nil || !m.placed {
		return api.ErrState
	}
	from := m.place
	if from.X != to.X && from.Y != to.Y {
		return api.ErrForm
	}
	m.reach(to, &m.on)
	step := point(cmp.Compare(to.X, from.X), cmp.Compare(to.Y, from.Y))
	m.stamp(from)
	for from != to {
		from = point(from.X+step.X, from.Y+step.Y)
		m.stamp(from)
	}
	return api.OK
}

func (m *model) stamp(at api.Point) {
	unit := m.plot.Unit
	for _, r := range m.tool {
		for y := r.Y0 * unit; y < r.Y1*unit; y++ {
			for x := r.X0 * unit; x < r.X1*unit; x++ {
				m.set(point(at.X+x, at.Y+y))
			}
		}
	}
}

func (m *model) set(p api.Point) {
	if m.dark {
		m.squares[p] = true
	} else {
		delete(m.squares, p)
	}
}

// area looks from each square to the right: an odd number of sides is seen from within.
func (m *model) area(row []api.Point, by api.Point) {
	unit := m.plot.Unit
	far := 0
	var at []api.Point
	for _, p := range row {
		at = append(at, point(p.X*unit, p.Y*unit))
		far = max(far, p.X*unit, -p.X*unit, p.Y*unit, -p.Y*unit)
	}
	for y := -far; y < far; y++ {
		for x := -far; x < far; x++ {
			sides := 0
			for i, p := range at {
				q := at[(i+1)%len(at)]
				if p.X == q.X && p.X > x && min(p.Y, q.Y) <= y && y < max(p.Y, q.Y) {
					sides++
				}
			}
			if sides%2 == 1 {
				m.set(point(x+by.X, y+by.Y))
			}
		}
	}
}

// squaresOf returns the squares of a region.
func squaresOf(r []api.Rect) map[api.Point]bool {
	out := map[api.Point]bool{}
	for _, x := range r {
		for y := x.Y0; y < x.Y1; y++ {
			for at := x.X0; at < x.X1; at++ {
				out[point(at, y)] = true
			}
		}
	}
	return out
}

// wantSquares fails if a region is not the canonical form of these squares.
func wantSquares(t *testing.T, what string, r []api.Rect, squares map[api.Point]bool) {
	t.Helper()
	wantFault(t, what+": CheckRegion", shape.CheckRegion(r), api.OK)
	got := squaresOf(r)
	for p := range squares {
		if !got[p] {
			t.Errorf("%s: no square at %v", what, p)
			return
		}
	}
	if len(got) != len(squares) {
		t.Errorf("%s: %d squares, want %d", what, len(got), len(squares))
	}
}

// sameSquares says whether two pictures are the same.
func sameSquares(a, b *model) bool {
	for p := range a.squares {
		if !b.squares[p] {
			return false
		}
	}
	return len(a.squares) == len(b.squares)
}
