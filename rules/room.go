package rules

import (
	"maps"
	"slices"

	"etchhouse/api"
	"etchhouse/shape"
	"etchhouse/texts"
)

// Room returns where copper of a net may be added to a layer.
func Room(r api.RuleSet, a api.Art, nets []string, net string, layer int) ([]api.Rect, api.Fault) {
	_, room, f := roomOf(r, a, nets, net, layer)
	return room, f
}

// Fits says whether a region may be added to the copper of a net on a layer.
func Fits(r api.RuleSet, a api.Art, nets []string, net string, layer int, more []api.Rect) (bool, api.Fault) {
	i, room, f := roomOf(r, a, nets, net, layer)
	if f != api.OK {
		return false, f
	}
	if f := shape.CheckRegion(more); f != api.OK {
		return false, f
	}
	isWithin := len(shape.InFirstAlone(more, room)) == 0
	return isWithin && len(thin(more, i.width(net))) == 0, api.OK
}

func roomOf(r api.RuleSet, a api.Art, nets []string, net string, layer int) (inspection, []api.Rect, api.Fault) {
	i, f := inspectNets(r, a, nets)
	switch {
	case f != api.OK:
		return inspection{}, nil, f
	case !texts.IsPath(net):
		return inspection{}, nil, api.ErrName
	case layer < 0 || layer >= len(a.Coppers):
		return inspection{}, nil, api.ErrRange
	}
	edge := shape.Spread(shape.Outside(a.Outline), i.Edge, i.Edge)
	taken := slices.Concat(edge, i.aroundBores(net, layer), i.aroundPieces(net, layer))
	room := shape.InFirstAlone(a.Outline, taken)
	if len(room) > api.MaxRects {
		return inspection{}, nil, api.ErrLarge
	}
	return i, room, api.OK
}

// aroundBores returns what is too near to bores through a layer: in them, or, if they are not plated ones of the net, also around them.
func (i inspection) aroundBores(net string, layer int) []api.Rect {
	own := map[int]bool{}
	for k, g := range i.groups {
		for _, bore := range g.Bores {
			own[bore] = i.nets[k] == net
		}
	}
	var out []api.Rect
	for j, one := range i.art.Bores {
		switch {
		case !goesThrough(one, layer):
		case own[j]:
			out = append(out, i.squares[j])
		default:
			out = append(out, shape.Widened(i.squares[j], i.Clearance))
		}
	}
	return out
}

// aroundPieces returns what is too near to pieces of other nets on a layer. Within areas it is these that tell how near, where several lie over one another the one with the greatest clearance.
func (i inspection) aroundPieces(net string, layer int) []api.Rect {
	var others []api.Rect
	byClearance := map[int][]api.Rect{} // where there is no area
	for _, p := range i.pieces {
		if other := i.netOf(p); p.layer == layer && other != net {
			others = append(others, p.region...)
			clearance := i.between(net, other)
			byClearance[clearance] = append(byClearance[clearance], p.region...)
		}
	}
	var out, areas []api.Rect
	for _, area := range i.areas {
		if !liesOn(area, layer) {
			continue
		}
		near := shape.Spread(others, area.Clearance, area.Clearance)
		out = append(out, shape.InBoth(shape.InFirstAlone(area.Region, areas), near)...)
		areas = append(areas, area.Region...)
	}
	for _, clearance := range slices.Sorted(maps.Keys(byClearance)) {
		near := shape.Spread(byClearance[clearance], clearance, clearance)
		out = append(out, shape.InFirstAlone(near, areas)...)
	}
	return out
}
