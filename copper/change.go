package copper

import (
	"slices"

	"etchhouse/api"
	"etchhouse/shape"
)

// With returns the board with more copper on a layer.
func With(a api.Art, layer int, r []api.Rect) (api.Art, api.Fault) {
	return changed(a, layer, r, shape.Union)
}

// Without returns the board with less copper on a layer.
func Without(a api.Art, layer int, r []api.Rect) (api.Art, api.Fault) {
	return changed(a, layer, r, shape.Minus)
}

// changed combines a copper with a region; what combines them validates the region.
func changed(a api.Art, layer int, r []api.Rect, combine func(copper, r []api.Rect) ([]api.Rect, api.Fault)) (api.Art, api.Fault) {
	if f := CheckArt(a); f != api.OK {
		return api.Art{}, f
	}
	if layer < 0 || layer >= len(a.Coppers) {
		return api.Art{}, api.ErrNone
	}
	copper, f := combine(a.Coppers[layer], r)
	if f != api.OK {
		return api.Art{}, f
	}
	out := copied(a)
	out.Coppers[layer] = copper
	if f := CheckArt(out); f != api.OK {
		return api.Art{}, f
	}
	return out, api.OK
}

// copied returns a board in memory of its own.
func copied(a api.Art) api.Art {
	out := api.Art{Outline: slices.Clone(a.Outline), Bores: slices.Clone(a.Bores), Lands: slices.Clone(a.Lands)}
	for _, copper := range a.Coppers {
		out.Coppers = append(out.Coppers, slices.Clone(copper))
	}
	return out
}
