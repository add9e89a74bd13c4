package copper

import (
	"slices"

	"etchhouse/api"
	"etchhouse/shape"
)

// links tells of each piece and each plated bore what it touches, in order.
type links map[api.Hop][]api.Hop

func (b *board) links() links {
	out := links{}
	for i := range b.bores {
		bore := api.Hop{Bore: true, Number: i}
		for _, k := range b.touched(i) {
			piece := api.Hop{Number: k}
			out[bore] = append(out[bore], piece)
			out[piece] = append(out[piece], bore)
		}
	}
	return out
}

// spread goes from a hop to what it touches, over others, the nearest ones first. It shows each step, and goes on only behind those that lead to something new.
func (l links) spread(from api.Hop, isNew func(from, to api.Hop) bool) {
	ahead := []api.Hop{from}
	for len(ahead) > 0 {
		at := ahead[0]
		ahead = ahead[1:]
		for _, next := range l[at] {
			if isNew(at, next) {
				ahead = append(ahead, next)
			}
		}
	}
}

// hops returns all pieces, then all plated bores.
func (b *board) hops() []api.Hop {
	var out []api.Hop
	for k := range b.pieces {
		out = append(out, api.Hop{Number: k})
	}
	for i, one := range b.bores {
		if one.Plated {
			out = append(out, api.Hop{Bore: true, Number: i})
		}
	}
	return out
}

// holder is the piece or the plated bore that has a land, and whether there is one.
func (b *board) holder(l api.Land) (api.Hop, bool) {
	square := api.Rect{X0: l.At.X, Y0: l.At.Y, X1: l.At.X + 1, Y1: l.At.Y + 1}
	has := func(r api.Rect) bool { return shape.Overlap(r, square) }
	for i, one := range b.bores {
		if one.Plated && goesThrough(one, l.Layer) && has(b.squares[i]) {
			return api.Hop{Bore: true, Number: i}, true
		}
	}
	for k, p := range b.pieces {
		if p.layer == l.Layer && slices.ContainsFunc(p.region, has) {
			return api.Hop{Number: k}, true
		}
	}
	return api.Hop{}, false
}

// noGroup stands for the group of a pin that has none.
const noGroup = -1

// groups returns the groups, and the number of the group, or noGroup, of the pin of each land.
func (b *board) groups() ([]api.Group, map[api.Pin]int) {
	hops := b.hops()
	number, many := b.links().numbered(hops)
	groups := make([]api.Group, many)
	for _, h := range hops {
		g := &groups[number[h]]
		if h.Bore {
			g.Bores = append(g.Bores, h.Number)
		} else {
			g.Pieces = append(g.Pieces, h.Number)
		}
	}
	ofPin := map[api.Pin]int{}
	for _, l := range b.lands {
		ofPin[pinOf(l)] = noGroup
		if h, ok := b.holder(l); ok {
			g := &groups[number[h]]
			g.Pins = append(g.Pins, pinOf(l))
			ofPin[pinOf(l)] = number[h]
		}
	}
	return groups, ofPin
}

// numbered returns the number of the group of each hop, and how many groups there are: they are counted by their first hops.
func (l links) numbered(hops []api.Hop) (map[api.Hop]int, int) {
	number, many := map[api.Hop]int{}, 0
	for _, first := range hops {
		if _, known := number[first]; known {
			continue
		}
		number[first] = many
		l.spread(first, func(_, next api.Hop) bool {
			_, known := number[next]
			number[next] = many
			return !known
		})
		many++
	}
	return number, many
}

// Groups returns what is connected.
func Groups(a api.Art) ([]api.Group, api.Fault) {
	b, f := drilled(a)
	if f != api.OK {
		return nil, f
	}
	groups, _ := b.groups()
	return groups, api.OK
}

// GroupOf returns the number of the group of a pin, and whether it has one.
func GroupOf(a api.Art, p api.Pin) (int, bool, api.Fault) {
	b, f := drilled(a)
	if f != api.OK {
		return 0, false, f
	}
	_, ofPin := b.groups()
	number, ok := ofPin[p]
	if !ok {
		return 0, false, api.ErrNone
	}
	if number == noGroup {
		return 0, false, api.OK
	}
	return number, true, api.OK
}

// Made returns the pins that are connected, group by group, then each pin without a group by itself.
func Made(a api.Art) ([][]api.Pin, api.Fault) {
	b, f := drilled(a)
	if f != api.OK {
		return nil, f
	}
	groups, ofPin := b.groups()
	var out [][]api.Pin
	for _, g := range groups {
		if len(g.Pins) > 0 {
			out = append(out, g.Pins)
		}
	}
	for _, l := range b.lands {
		if ofPin[pinOf(l)] == noGroup {
			out = append(out, []api.Pin{pinOf(l)})
		}
	}
	return out, api.OK
}

// Islands returns the pieces of groups without pins.
func Islands(a api.Art) ([]int, api.Fault) {
	b, f := drilled(a)
	if f != api.OK {
		return nil, f
	}
	groups, _ := b.groups()
	var out []int
	for _, g := range groups {
		if len(g.Pins) == 0 {
			out = append(out, g.Pieces...)
		}
	}
	slices.Sort(out)
	return out, api.OK
}

// Useless returns the plated bores that touch fewer than two pieces.
func Useless(a api.Art) ([]int, api.Fault) {
	b, f := drilled(a)
	if f != api.OK {
		return nil, f
	}
	var out []int
	for i, one := range b.bores {
		if one.Plated && len(b.touched(i)) < 2 {
			out = append(out, i)
		}
	}
	return out, api.OK
}
