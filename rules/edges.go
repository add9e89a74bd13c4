package rules

import (
	"etchhouse/api"
	"etchhouse/shape"
)

// edgePieces finds what Edges tells. The Outline shrinks by what lies around its outside, so that a piece is as far from the edge as from the nearest square outside.
func (i inspection) edgePieces(yield func(api.Break) bool) {
	outside := i.outside()
	edge := shape.Spread(outside, i.Edge, i.Edge)
	for k, p := range i.pieces {
		at, isNear := shape.FirstIn(p.region, edge)
		if !isNear {
			continue
		}
		is := shape.LeastDistance(p.region, outside) - 1
		if !yield(api.Break{Kind: api.BreakEdge, A: k, Is: is, Need: i.Edge, At: at}) {
			return
		}
	}
}

// outside returns all where copper can be that is not in the Outline, and one square beyond.
func (b *board) outside() []api.Rect {
	return shape.Stacked(shape.InFirstAlone([]api.Rect{shape.Widened(plane(), 1)}, b.art.Outline))
}
