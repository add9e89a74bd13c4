// Package copper has boards: what is left of their copper, what is connected with what, how, and what differs from a list of nets.
package copper

import (
	"cmp"
	"slices"
	"strings"

	"etchhouse/api"
	"etchhouse/shape"
	"etchhouse/texts"
)

// CheckArt validates a board.
func CheckArt(a api.Art) api.Fault {
	_, f := drilled(a)
	return f
}

// checkRegions validates the coppers and the outline of a board.
func checkRegions(a api.Art) api.Fault {
	if len(a.Coppers) == 0 {
		return api.ErrNone
	}
	if len(a.Coppers) > api.MaxCoppers {
		return api.ErrLarge
	}
	all := 0
	for _, r := range slices.Concat(a.Coppers, [][]api.Rect{a.Outline}) {
		if f := shape.CheckRegion(r); f != api.OK {
			return f
		}
		all += len(r)
	}
	if all > api.MaxRects {
		return api.ErrLarge
	}
	return api.OK
}

// checkBores validates bores each by itself, and returns their squares.
func checkBores(bores []api.Bore, coppers int) ([]api.Rect, api.Fault) {
	if len(bores) > api.MaxBores {
		return nil, api.ErrLarge
	}
	var squares []api.Rect
	for _, b := range bores {
		square, f := Square(b)
		if f != api.OK {
			return nil, f
		}
		if b.From < 0 || b.To < b.From || b.To >= coppers {
			return nil, api.ErrRange
		}
		squares = append(squares, square)
	}
	return squares, api.OK
}

// Square returns the square of a bore.
func Square(b api.Bore) (api.Rect, api.Fault) {
	if b.Size < 1 || b.Size > api.MaxHoleSize || !inRange(b.At) {
		return api.Rect{}, api.ErrRange
	}
	x, y := b.At.X-b.Size/2, b.At.Y-b.Size/2
	square := api.Rect{X0: x, Y0: y, X1: x + b.Size, Y1: y + b.Size}
	if f := shape.CheckRects([]api.Rect{square}); f != api.OK {
		return api.Rect{}, f
	}
	return square, api.OK
}

func inRange(p api.Point) bool {
	return p.X >= -api.MaxAt && p.X <= api.MaxAt && p.Y >= -api.MaxAt && p.Y <= api.MaxAt
}

// checkLands validates lands.
func checkLands(lands []api.Land, coppers int) api.Fault {
	if len(lands) > api.MaxLands {
		return api.ErrLarge
	}
	for i, l := range lands {
		switch {
		case !texts.IsPath(l.Part) || !texts.IsWord(l.Pin):
			return api.ErrName
		case l.Layer < 0 || l.Layer >= coppers || !inRange(l.At):
			return api.ErrRange
		case i > 0 && comparePins(pinOf(lands[i-1]), pinOf(l)) >= 0:
			return api.ErrOrder
		}
	}
	return api.OK
}

func pinOf(l api.Land) api.Pin {
	return api.Pin{Part: l.Part, Pin: l.Pin}
}

func comparePins(p, q api.Pin) int {
	return cmp.Or(strings.Compare(p.Part, q.Part), strings.Compare(p.Pin, q.Pin))
}

// haveClash says whether two bores through one copper have a square in common.
func haveClash(bores []api.Bore, squares []api.Rect) bool {
	for i, b := range bores {
		for j, c := range bores[:i] {
			if b.From <= c.To && c.From <= b.To && shape.Overlap(squares[i], squares[j]) {
				return true
			}
		}
	}
	return false
}
