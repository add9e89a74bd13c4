package rules_test

import (
	"cmp"
	"fmt"
	"slices"

	"etchhouse/api"
	"etchhouse/copper"
)

// spot is a unit square of a layer.
type spot struct{ layer, x, y int }

// squares of one layer.
type squares map[api.Point]bool

func squaresOf(l ...api.Rect) squares {
	out := squares{}
	for _, r := range l {
		for y := r.Y0; y < r.Y1; y++ {
			for x := r.X0; x < r.X1; x++ {
				out[point(x, y)] = true
			}
		}
	}
	return out
}

// sorted by Y, then X.
func (s squares) sorted() []api.Point {
	var out []api.Point
	for p := range s {
		out = append(out, p)
	}
	slices.SortFunc(out, func(p, q api.Point) int { return cmp.Or(cmp.Compare(p.Y, q.Y), cmp.Compare(p.X, q.X)) })
	return out
}

func (s squares) region() []api.Rect {
	var out []api.Rect
	for p := range s {
		out = append(out, rect(p.X, p.Y, p.X+1, p.Y+1))
	}
	return region(out...)
}

// around are the squares that are at most n away from one.
func around(p api.Point, n int) []api.Point {
	return squaresOf(rect(p.X-n, p.Y-n, p.X+n+1, p.Y+n+1)).sorted()
}

// away is the distance of two squares (S3).
func away(p, q api.Point) int {
	return max(p.X-q.X, q.X-p.X, p.Y-q.Y, q.Y-p.Y)
}

// nearest is the least distance of a square and one of others.
func (s squares) nearest(p api.Point) int {
	least := 1000
	for q := range s {
		least = min(least, away(p, q))
	}
	return least
}

// shrunk are the squares around which all that are at most n away are there.
func (s squares) shrunk(n int) squares {
	out := squares{}
	for p := range s {
		if !slices.ContainsFunc(around(p, n), func(q api.Point) bool { return !s[q] }) {
			out[p] = true
		}
	}
	return out
}

// within says whether all squares of some are among others.
func (s squares) within(others squares) bool {
	for p := range s {
		if !others[p] {
			return false
		}
	}
	return true
}

// thin are the squares that no square area of so many by so many has.
func (s squares) thin(width int) squares {
	out := squares{}
	for p := range s {
		fits := width == 0
		for y := p.Y - width + 1; y <= p.Y; y++ {
			for x := p.X - width + 1; x <= p.X; x++ {
				fits = fits || squaresOf(rect(x, y, x+width, y+width)).within(s)
			}
		}
		if !fits {
			out[p] = true
		}
	}
	return out
}

func boreSquare(b api.Bore) squares {
	r, f := copper.Square(b)
	if f != api.OK {
		panic("no bore")
	}
	return squaresOf(r)
}

func boreSpots(b api.Bore) []spot {
	var out []spot
	for p := range boreSquare(b) {
		for layer := b.From; layer <= b.To; layer++ {
			out = append(out, spot{layer, p.X, p.Y})
		}
	}
	return out
}

// model is rules and a board, both without faults, square by square, as the chapter tells of it.
type model struct {
	rules  api.RuleSet
	art    api.Art
	nets   []string
	pieces []squares
	layers []int // of the pieces
	groups []int // of the pieces
	own    []int // the group of each bore, or -1
}

func modelOf(r api.RuleSet, a api.Art, nets []string) *model {
	m := &model{rules: r, art: a, nets: nets}
	pieces, f := copper.Pieces(a)
	groups, g := copper.Groups(a)
	if f != api.OK || g != api.OK {
		panic(fmt.Sprint("no board: ", f, g))
	}
	for k, p := range pieces {
		l, _ := copper.PieceRegion(a, k)
		m.pieces = append(m.pieces, squaresOf(l...))
		m.layers = append(m.layers, p.Layer)
	}
	m.groups = make([]int, len(pieces))
	m.own = slices.Repeat([]int{-1}, len(a.Bores))
	for i, one := range groups {
		for _, k := range one.Pieces {
			m.groups[k] = i
		}
		for _, b := range one.Bores {
			m.own[b] = i
		}
	}
	return m
}

func (m *model) net(piece int) string {
	return m.nets[m.groups[piece]]
}

// own is what a net has by its class, or what is for all.
func own(r api.RuleSet, net string, ofClass func(api.NetClass) int, all int) int {
	for _, c := range r.Classes {
		if slices.Contains(c.Nets, net) && ofClass(c) != 0 {
			return ofClass(c)
		}
	}
	return all
}

func widthOf(r api.RuleSet, net string) int {
	return own(r, net, func(c api.NetClass) int { return c.Width }, r.Width)
}

func needs(r api.RuleSet, netA, netB string, layer int, at api.Point) int {
	greatest := -1
	for _, one := range r.Areas {
		if (one.Layer == -1 || one.Layer == layer) && squaresOf(one.Region...)[at] {
			greatest = max(greatest, one.Clearance)
		}
	}
	if greatest >= 0 {
		return greatest
	}
	clearance := func(c api.NetClass) int { return c.Clearance }
	return max(own(r, netA, clearance, r.Clearance), own(r, netB, clearance, r.Clearance))
}

// each calls a function with each two pieces of different groups on one layer, and their distance (S4).
func (m *model) each(f func(a, b, distance int)) {
	for a, p := range m.pieces {
		for b := a + 1; b < len(m.pieces); b++ {
			if m.layers[a] != m.layers[b] || m.groups[a] == m.groups[b] {
				continue
			}
			least := 1000
			for q := range p {
				least = min(least, m.pieces[b].nearest(q))
			}
			f(a, b, least-1)
		}
	}
}

func (m *model) clear() []api.Break {
	var out []api.Break
	m.each(func(a, b, distance int) {
		squares := m.pieces[a].sorted()
		from := squares[slices.IndexFunc(squares, func(q api.Point) bool { return m.pieces[b].nearest(q) == distance+1 })]
		if need := needs(m.rules, m.net(a), m.net(b), m.layers[a], from); distance < need {
			out = append(out, api.Break{Kind: api.BreakClear, A: a, B: b, Is: distance, Need: need, At: from})
		}
	})
	return out
}

func (m *model) narrow() []api.Break {
	var out []api.Break
	for k, p := range m.pieces {
		need := widthOf(m.rules, m.net(k))
		thin := p.thin(need)
		if len(thin) == 0 {
			continue
		}
		is := need
		for len(p.thin(is)) > 0 {
			is--
		}
		out = append(out, api.Break{Kind: api.BreakWidth, A: k, Is: is, Need: need, At: thin.sorted()[0]})
	}
	return out
}

// covered says whether a square of a layer is copper, or in a bore other than one.
func (m *model) covered(layer int, p api.Point, but int) bool {
	for k, piece := range m.pieces {
		if m.layers[k] == layer && piece[p] {
			return true
		}
	}
	for i, b := range m.art.Bores {
		if i != but && b.From <= layer && layer <= b.To && boreSquare(b)[p] {
			return true
		}
	}
	return false
}

func (m *model) rings() []api.Break {
	var out []api.Break
	for i, b := range m.art.Bores {
		square := boreSquare(b)
		for layer := b.From; layer <= b.To && b.Plated; layer++ {
			if !m.hasCopperAt(square, layer) {
				continue
			}
			ring := squares{}
			for p := range square {
				for _, q := range around(p, m.rules.Ring) {
					if !square[q] && !m.covered(layer, q, i) {
						ring[q] = true
					}
				}
			}
			if len(ring) == 0 {
				continue
			}
			is := m.rules.Ring
			for q := range ring {
				is = min(is, square.nearest(q)-1)
			}
			out = append(out, api.Break{Kind: api.BreakRing, A: i, B: layer, Is: is, Need: m.rules.Ring, At: ring.sorted()[0]})
		}
	}
	return out
}

// hasCopperAt says whether there is copper, before any is drilled, in a square or at its sides.
func (m *model) hasCopperAt(square squares, layer int) bool {
	copperOf := squaresOf(m.art.Coppers[layer]...)
	for p := range square {
		for _, q := range []api.Point{p, point(p.X-1, p.Y), point(p.X+1, p.Y), point(p.X, p.Y-1), point(p.X, p.Y+1)} {
			if copperOf[q] {
				return true
			}
		}
	}
	return false
}

func (m *model) edges() []api.Break {
	var shrunk []squares
	for n := range m.rules.Edge + 1 {
		shrunk = append(shrunk, squaresOf(m.art.Outline...).shrunk(n))
	}
	var out []api.Break
	for k, p := range m.pieces {
		near := squares{}
		for q := range p {
			if !shrunk[m.rules.Edge][q] {
				near[q] = true
			}
		}
		if len(near) == 0 {
			continue
		}
		is := m.rules.Edge
		for is >= 0 && !p.within(shrunk[is]) {
			is--
		}
		out = append(out, api.Break{Kind: api.BreakEdge, A: k, Is: is, Need: m.rules.Edge, At: near.sorted()[0]})
	}
	return out
}

func (m *model) holeGaps() []api.Break {
	var out []api.Break
	for i, a := range m.art.Bores {
		for j := i + 1; j < len(m.art.Bores); j++ {
			b := m.art.Bores[j]
			common, least := false, 1000
			for layer := range m.art.Coppers {
				common = common || a.From <= layer && layer <= a.To && b.From <= layer && layer <= b.To
			}
			for p := range boreSquare(a) {
				least = min(least, boreSquare(b).nearest(p))
			}
			if common && least-1 < m.rules.HoleGap {
				out = append(out, api.Break{Kind: api.BreakHole, A: i, B: j, Is: least - 1, Need: m.rules.HoleGap, At: boreSquare(a).sorted()[0]})
			}
		}
	}
	return out
}

func (m *model) all() []api.Break {
	return slices.Concat(m.clear(), m.narrow(), m.rings(), m.edges(), m.holeGaps())
}

func (m *model) least() (int, bool) {
	least, found := api.MaxGrow, false
	m.each(func(_, _, distance int) {
		least, found = min(least, distance), true
	})
	if !found {
		return 0, false
	}
	return least, true
}

// room asks of each square of the outline, one after the other.
func (m *model) room(net string, layer int) squares {
	out := squares{}
	for p := range squaresOf(m.art.Outline...).shrunk(m.rules.Edge) {
		if m.besideBores(net, layer, p) && m.besidePieces(net, layer, p) {
			out[p] = true
		}
	}
	return out
}

func (m *model) besideBores(net string, layer int, p api.Point) bool {
	for i, b := range m.art.Bores {
		square := boreSquare(b)
		isOwn := b.Plated && m.nets[m.own[i]] == net
		if b.From <= layer && layer <= b.To && (square[p] || !isOwn && square.nearest(p) <= m.rules.Clearance) {
			return false
		}
	}
	return true
}

// besidePieces takes a square in a piece to be less than 0 away from it.
func (m *model) besidePieces(net string, layer int, p api.Point) bool {
	for k, piece := range m.pieces {
		if m.layers[k] == layer && m.net(k) != net && piece.nearest(p)-1 < needs(m.rules, net, m.net(k), layer, p) {
			return false
		}
	}
	return true
}
