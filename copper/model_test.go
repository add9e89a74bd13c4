package copper_test

import (
	"cmp"
	"maps"
	"slices"

	"etchhouse/api"
)

// spot is a unit square of a layer.
type spot struct{ layer, x, y int }

// model is a board without faults, square by square, as the chapter tells of it.
type model struct {
	art    api.Art
	left   map[spot]bool
	pieces [][]spot
	number map[spot]int // of the piece of each square
	near   [][]int      // the pieces that each bore touches
	groups []api.Group
}

func modelOf(a api.Art) *model {
	m := &model{art: a, left: map[spot]bool{}, number: map[spot]int{}}
	for layer, copper := range a.Coppers {
		for _, r := range copper {
			for _, s := range spotsOf(r, layer) {
				m.left[s] = true
			}
		}
	}
	for _, b := range a.Bores {
		for _, s := range boreSpots(b) {
			delete(m.left, s)
		}
	}
	for _, s := range slices.SortedFunc(maps.Keys(m.left), compareSpots) {
		if _, ok := m.number[s]; !ok {
			m.pieces = append(m.pieces, nil)
			m.take(s)
		}
	}
	for i := range a.Bores {
		m.near = append(m.near, m.touched(i))
	}
	m.findGroups()
	return m
}

func spotsOf(r api.Rect, layer int) []spot {
	var out []spot
	for x := r.X0; x < r.X1; x++ {
		for y := r.Y0; y < r.Y1; y++ {
			out = append(out, spot{layer, x, y})
		}
	}
	return out
}

// squareOf has its middle at a point, or half a square above and at the right of it.
func squareOf(b api.Bore) api.Rect {
	x, y := b.At.X, b.At.Y
	out := rect(x, y, x, y)
	for out.X1-out.X0 < b.Size {
		if x-out.X0 < out.X1-x {
			out.X0, out.Y0 = out.X0-1, out.Y0-1
		} else {
			out.X1, out.Y1 = out.X1+1, out.Y1+1
		}
	}
	return out
}

func boreSpots(b api.Bore) []spot {
	var out []spot
	for layer := b.From; layer <= b.To; layer++ {
		out = append(out, spotsOf(squareOf(b), layer)...)
	}
	return out
}

func beside(s spot) []spot {
	return []spot{{s.layer, s.x - 1, s.y}, {s.layer, s.x + 1, s.y}, {s.layer, s.x, s.y - 1}, {s.layer, s.x, s.y + 1}}
}

// take lets a square, and all that hangs together with it, belong to the last piece.
func (m *model) take(s spot) {
	if _, ok := m.number[s]; ok || !m.left[s] {
		return
	}
	last := len(m.pieces) - 1
	m.number[s] = last
	m.pieces[last] = append(m.pieces[last], s)
	for _, n := range beside(s) {
		m.take(n)
	}
}

func (m *model) leftOf(layer int) []api.Rect {
	var l []spot
	for s := range m.left {
		if s.layer == layer {
			l = append(l, s)
		}
	}
	return regionOf(l)
}

func regionOf(l []spot) []api.Rect {
	var out []api.Rect
	for _, s := range l {
		out = append(out, rect(s.x, s.y, s.x+1, s.y+1))
	}
	return region(out...)
}

func (m *model) piece(k int) api.Piece {
	first := slices.MinFunc(m.pieces[k], compareSpots)
	return api.Piece{Layer: first.layer, First: api.Point{X: first.x, Y: first.y}, Area: len(m.pieces[k])}
}

func (m *model) touched(bore int) []int {
	found := map[int]bool{}
	if b := m.art.Bores[bore]; b.Plated {
		for _, s := range boreSpots(b) {
			for _, n := range beside(s) {
				if m.left[n] {
					found[m.number[n]] = true
				}
			}
		}
	}
	return slices.Sorted(maps.Keys(found))
}

// hops are all pieces, then all plated bores.
func (m *model) hops() []api.Hop {
	var out []api.Hop
	for k := range m.pieces {
		out = append(out, api.Hop{Number: k})
	}
	for i, b := range m.art.Bores {
		if b.Plated {
			out = append(out, api.Hop{Bore: true, Number: i})
		}
	}
	return out
}

func (m *model) touch(g, h api.Hop) bool {
	if h.Bore {
		g, h = h, g
	}
	return g.Bore && !h.Bore && slices.Contains(m.near[g.Number], h.Number)
}

// reached is all that can be reached from a hop, but through one that is left out.
func (m *model) reached(from api.Hop, without ...api.Hop) []api.Hop {
	var out []api.Hop
	var visit func(h api.Hop)
	visit = func(h api.Hop) {
		if slices.Contains(out, h) || slices.Contains(without, h) {
			return
		}
		out = append(out, h)
		for _, next := range m.hops() {
			if m.touch(h, next) {
				visit(next)
			}
		}
	}
	visit(from)
	return out
}

// holder has the land.
func (m *model) holder(l api.Land) (api.Hop, bool) {
	s := spot{l.Layer, l.At.X, l.At.Y}
	if k, ok := m.number[s]; ok {
		return api.Hop{Number: k}, true
	}
	for i, b := range m.art.Bores {
		if b.Plated && slices.Contains(boreSpots(b), s) {
			return api.Hop{Bore: true, Number: i}, true
		}
	}
	return api.Hop{}, false
}

func (m *model) findGroups() {
	var known []api.Hop
	for _, first := range m.hops() {
		if slices.Contains(known, first) {
			continue
		}
		group := m.reached(first)
		known = append(known, group...)
		m.groups = append(m.groups, m.groupOf(group))
	}
}

func (m *model) groupOf(l []api.Hop) api.Group {
	var out api.Group
	for _, h := range l {
		if h.Bore {
			out.Bores = append(out.Bores, h.Number)
		} else {
			out.Pieces = append(out.Pieces, h.Number)
		}
	}
	slices.Sort(out.Pieces)
	slices.Sort(out.Bores)
	for _, one := range m.art.Lands {
		if h, ok := m.holder(one); ok && slices.Contains(l, h) {
			out.Pins = append(out.Pins, pinOf(one))
		}
	}
	return out
}

func (m *model) made() [][]api.Pin {
	var out [][]api.Pin
	for _, g := range m.groups {
		if len(g.Pins) > 0 {
			out = append(out, g.Pins)
		}
	}
	for _, l := range m.art.Lands {
		if _, ok := m.holder(l); !ok {
			out = append(out, []api.Pin{pinOf(l)})
		}
	}
	return out
}

// numberOf is the number of the group of a pin; false if it has none.
func (m *model) numberOf(p api.Pin) (int, bool) {
	at := slices.IndexFunc(m.groups, func(g api.Group) bool { return slices.Contains(g.Pins, p) })
	return max(at, 0), at >= 0
}

// way goes on from all ways of one length to all that are longer by one, and returns the least one that comes to its end.
func (m *model) way(from, to api.Hop) []api.Hop {
	ways := [][]api.Hop{{from}}
	for len(ways) > 0 {
		var there, longer [][]api.Hop
		for _, w := range ways {
			last := w[len(w)-1]
			if last == to {
				there = append(there, w)
			}
			for _, h := range m.hops() {
				if m.touch(last, h) && !slices.Contains(w, h) {
					longer = append(longer, append(slices.Clone(w), h))
				}
			}
		}
		if len(there) > 0 {
			return slices.MinFunc(there, compareWays)
		}
		ways = longer
	}
	return nil
}

func compareWays(v, w []api.Hop) int {
	return slices.CompareFunc(v, w, func(g, h api.Hop) int {
		if g.Bore != h.Bore {
			return map[bool]int{false: -1, true: 1}[g.Bore]
		}
		return cmp.Compare(g.Number, h.Number)
	})
}

// bridges are the hops of a way without each of which its ends are not connected.
func (m *model) bridges(way []api.Hop) []api.Hop {
	var out []api.Hop
	for _, h := range way {
		if !slices.Contains(m.reached(way[0], h), way[len(way)-1]) {
			out = append(out, h)
		}
	}
	return out
}

// compare asks of each two pins whether they are, and whether they should be, connected.
func (m *model) compare(types []api.PartType, x api.Netlist) []api.Wrong {
	var out []api.Wrong
	tell := func(kind int, nets []string, pins []api.Pin, really bool) {
		if really {
			out = append(out, api.Wrong{Kind: kind, Nets: nets, Pins: pins})
		}
	}
	hasLand := func(p api.Pin) bool {
		return slices.ContainsFunc(m.art.Lands, func(l api.Land) bool { return pinOf(l) == p })
	}
	var missing []api.Pin
	for _, n := range x.Nets {
		for _, p := range n.Pins {
			if !hasLand(p) {
				missing = append(missing, p)
			}
		}
	}
	tell(api.WrongMissing, nil, missing, len(missing) > 0)
	for _, n := range x.Nets {
		there := slices.DeleteFunc(slices.Clone(n.Pins), func(p api.Pin) bool { return !hasLand(p) })
		byGroup := m.byGroup(there)
		apart := func(p api.Pin) bool { return p != there[0] && !m.joined(there[0], p) }
		tell(api.WrongOpen, []string{n.Name}, byGroup, slices.ContainsFunc(there, apart))
	}
	for _, g := range m.groups {
		pins := slices.DeleteFunc(slices.Clone(g.Pins), func(p api.Pin) bool { return !listed(types, x, p) })
		nets := map[string]bool{}
		short := false
		for _, p := range pins {
			for _, q := range pins {
				short = short || p != q && (netOf(x, p) == "" || netOf(x, p) != netOf(x, q))
			}
			nets[netOf(x, p)] = true
		}
		delete(nets, "")
		tell(api.WrongShort, slices.Sorted(maps.Keys(nets)), pins, short)
	}
	var extra []api.Pin
	for _, l := range m.art.Lands {
		if !listed(types, x, pinOf(l)) {
			extra = append(extra, pinOf(l))
		}
	}
	tell(api.WrongExtra, nil, extra, len(extra) > 0)
	return out
}

// joined says whether two pins lie in one group.
func (m *model) joined(p, q api.Pin) bool {
	i, okP := m.numberOf(p)
	j, okQ := m.numberOf(q)
	return okP && okQ && i == j
}

// byGroup takes the first pin that is left, and all that lie in its group, as long as there are some.
func (m *model) byGroup(l []api.Pin) []api.Pin {
	if len(l) == 0 {
		return nil
	}
	var with, rest []api.Pin
	for _, p := range l {
		if p == l[0] || m.joined(l[0], p) {
			with = append(with, p)
		} else {
			rest = append(rest, p)
		}
	}
	return append(with, m.byGroup(rest)...)
}

// netOf is the name of the net of a pin, or empty.
func netOf(x api.Netlist, p api.Pin) string {
	for _, n := range x.Nets {
		if slices.Contains(n.Pins, p) {
			return n.Name
		}
	}
	return ""
}

// listed says whether a pin is one of a part of the list.
func listed(types []api.PartType, x api.Netlist, p api.Pin) bool {
	for _, part := range x.Parts {
		for _, one := range types {
			for _, q := range one.Pins {
				if part.Type == one.Name && p == (api.Pin{Part: part.Name, Pin: q.Name}) {
					return true
				}
			}
		}
	}
	return false
}
