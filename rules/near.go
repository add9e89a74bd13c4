package rules

import (
	"iter"

	"etchhouse/api"
	"etchhouse/shape"
)

// pairs gives the numbers of each two pieces of different groups on one layer.
func (b *board) pairs() iter.Seq2[int, int] {
	return func(yield func(j, k int) bool) {
		for j, p := range b.pieces {
			for k := j + 1; k < len(b.pieces) && b.pieces[k].layer == p.layer; k++ {
				if b.pieces[k].group != p.group && !yield(j, k) {
					return
				}
			}
		}
	}
}

// gap returns where two pieces are nearest to each other, and whether their distance is less than a number.
func (b *board) gap(j, k, below int) (api.Gap, bool) {
	p, q := b.pieces[j], b.pieces[k]
	if !shape.Overlap(shape.Widened(p.around, below), q.around) {
		return api.Gap{}, false
	}
	gaps, f := shape.Gaps([][]api.Rect{p.region, q.region}, below)
	if f != api.OK || len(gaps) == 0 {
		return api.Gap{}, false
	}
	return gaps[0], true
}

// nearPieces finds what Clear tells.
func (i inspection) nearPieces(yield func(api.Break) bool) {
	most := i.most()
	for j, k := range i.pairs() {
		gap, ok := i.gap(j, k, most)
		if !ok {
			continue
		}
		p, q := i.pieces[j], i.pieces[k]
		need := i.needs(i.netOf(p), i.netOf(q), p.layer, gap.From)
		if gap.Distance < need && !yield(api.Break{Kind: api.BreakClear, A: j, B: k, Is: gap.Distance, Need: need, At: gap.From}) {
			return
		}
	}
}

// nearBores finds what HoleGaps tells.
func (i inspection) nearBores(yield func(api.Break) bool) {
	for j, a := range i.art.Bores {
		for k := j + 1; k < len(i.art.Bores); k++ {
			if b := i.art.Bores[k]; a.From > b.To || b.From > a.To {
				continue
			}
			square := i.squares[j]
			is := shape.Distance(square, i.squares[k]) - 1
			at := api.Point{X: square.X0, Y: square.Y0}
			if is < i.HoleGap && !yield(api.Break{Kind: api.BreakHole, A: j, B: k, Is: is, Need: i.HoleGap, At: at}) {
				return
			}
		}
	}
}

// Least returns the least distance of two pieces of different groups on one layer, up to MaxGrow, and whether there are two such.
func Least(a api.Art) (int, bool, api.Fault) {
	b, f := boardOf(a)
	if f != api.OK {
		return 0, false, f
	}
	least, found := api.MaxGrow, false
	for j, k := range b.pairs() {
		found = true
		if gap, ok := b.gap(j, k, least); ok {
			least = gap.Distance
		}
	}
	if !found {
		return 0, false, api.OK
	}
	return least, true, api.OK
}
