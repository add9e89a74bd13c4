package rules

import (
	"slices"

	"etchhouse/api"
	"etchhouse/shape"
)

// openRings finds what Rings tells.
func (i inspection) openRings(yield func(api.Break) bool) {
	bare := i.bareLayers()
	for j, one := range i.art.Bores {
		if !one.Plated {
			continue
		}
		square := []api.Rect{i.squares[j]}
		ring := []api.Rect{shape.Widened(square[0], i.Ring)}
		for layer := one.From; layer <= one.To; layer++ {
			if !i.meets(j, layer) {
				continue
			}
			at, isOpen := shape.FirstIn(bare[layer], ring)
			if !isOpen {
				continue
			}
			is := shape.LeastDistance(bare[layer], square) - 1
			if !yield(api.Break{Kind: api.BreakRing, A: j, B: layer, Is: is, Need: i.Ring, At: at}) {
				return
			}
		}
	}
}

// bareLayers returns what is neither copper nor in a bore, of each layer, as far as rings go, which can lead beyond all regions. Bores cut it at many heights, and each of them looks at all of it: so its rectangles are stacked.
func (i inspection) bareLayers() [][]api.Rect {
	frame := []api.Rect{shape.Widened(plane(), i.Ring)}
	var out [][]api.Rect
	for layer, left := range i.coppers {
		bores := i.squaresThrough(layer)
		out = append(out, shape.Stacked(shape.InFirstAlone(frame, slices.Concat(left, bores))))
	}
	return out
}

// plane is all where regions and bores can be.
func plane() api.Rect {
	return api.Rect{X0: -api.MaxAt, Y0: -api.MaxAt, X1: api.MaxAt, Y1: api.MaxAt}
}

// squaresThrough returns the squares of the bores that go through a layer.
func (b *board) squaresThrough(layer int) []api.Rect {
	var out []api.Rect
	for j, one := range b.art.Bores {
		if goesThrough(one, layer) {
			out = append(out, b.squares[j])
		}
	}
	return out
}

// meets says whether a layer has copper, before any is drilled, in the square of a bore or at its sides.
func (b *board) meets(bore, layer int) bool {
	square := b.squares[bore]
	return slices.ContainsFunc(b.art.Coppers[layer], func(r api.Rect) bool {
		return shape.Overlap(r, square) || shape.Touch(r, square)
	})
}
