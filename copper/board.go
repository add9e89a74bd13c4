package copper

import (
	"slices"

	"etchhouse/api"
	"etchhouse/shape"
)

// board is an art without faults, and what its bores leave of its copper.
type board struct {
	bores   []api.Bore
	squares []api.Rect // of the bores
	lands   []api.Land
	coppers [][]api.Rect // what is left of each
	pieces  []piece      // by number
}

// piece is copper that hangs together on a layer.
type piece struct {
	layer  int
	region []api.Rect
}

// drilled validates a board, and drills it.
func drilled(a api.Art) (*board, api.Fault) {
	if f := checkRegions(a); f != api.OK {
		return nil, f
	}
	squares, f := checkBores(a.Bores, len(a.Coppers))
	if f != api.OK {
		return nil, f
	}
	if f := checkLands(a.Lands, len(a.Coppers)); f != api.OK {
		return nil, f
	}
	if haveClash(a.Bores, squares) {
		return nil, api.ErrClash
	}
	b := &board{bores: a.Bores, squares: squares, lands: a.Lands}
	for _, r := range a.Coppers {
		if f := b.add(r); f != api.OK {
			return nil, f
		}
	}
	return b, api.OK
}

// add drills the next copper, and numbers its pieces.
func (b *board) add(copper []api.Rect) api.Fault {
	layer := len(b.coppers)
	left := shape.InFirstAlone(copper, b.squaresThrough(layer))
	if len(left) > api.MaxRects {
		return api.ErrLarge
	}
	regions, f := shape.Pieces(left)
	if f != api.OK {
		return f
	}
	if len(b.pieces)+len(regions) > api.MaxPieces {
		return api.ErrLarge
	}
	b.coppers = append(b.coppers, left)
	for _, r := range regions {
		b.pieces = append(b.pieces, piece{layer, r})
	}
	return api.OK
}

// squaresThrough returns the squares of the bores that go through a layer.
func (b *board) squaresThrough(layer int) []api.Rect {
	var out []api.Rect
	for i, one := range b.bores {
		if goesThrough(one, layer) {
			out = append(out, b.squares[i])
		}
	}
	return out
}

func goesThrough(b api.Bore, layer int) bool {
	return b.From <= layer && layer <= b.To
}

// Drilled returns the copper that is left of each layer.
func Drilled(a api.Art) ([][]api.Rect, api.Fault) {
	b, f := drilled(a)
	if f != api.OK {
		return nil, f
	}
	return b.coppers, api.OK
}

// Pieces returns the pieces of the copper that is left, by their numbers.
func Pieces(a api.Art) ([]api.Piece, api.Fault) {
	b, f := drilled(a)
	if f != api.OK {
		return nil, f
	}
	var out []api.Piece
	for _, p := range b.pieces {
		area, f := shape.Area(p.region)
		if f != api.OK {
			return nil, f
		}
		first := api.Point{X: p.region[0].X0, Y: p.region[0].Y0}
		out = append(out, api.Piece{Layer: p.layer, First: first, Area: area})
	}
	return out, api.OK
}

// PieceRegion returns the region of a piece.
func PieceRegion(a api.Art, k int) ([]api.Rect, api.Fault) {
	b, f := drilled(a)
	if f != api.OK {
		return nil, f
	}
	if k < 0 || k >= len(b.pieces) {
		return nil, api.ErrNone
	}
	return b.pieces[k].region, api.OK
}

// Touched returns the pieces that a bore touches.
func Touched(a api.Art, bore int) ([]int, api.Fault) {
	b, f := drilled(a)
	if f != api.OK {
		return nil, f
	}
	if bore < 0 || bore >= len(b.bores) {
		return nil, api.ErrNone
	}
	return b.touched(bore), api.OK
}

// touched returns the pieces that a bore touches: none, if it is not plated.
func (b *board) touched(bore int) []int {
	one, square := b.bores[bore], b.squares[bore]
	if !one.Plated {
		return nil
	}
	touches := func(r api.Rect) bool { return shape.Touch(r, square) }
	var out []int
	for k, p := range b.pieces {
		if goesThrough(one, p.layer) && slices.ContainsFunc(p.region, touches) {
			out = append(out, k)
		}
	}
	return out
}
