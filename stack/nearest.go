package stack

import (
	"slices"

	"etchhouse/api"
)

// Nearest returns how many sheets to take in place of each layer of glue, so that a stack is as thick as the target, as nearly as can be, and how thick it is then.
func Nearest(m []api.Material, s []api.Layer, most, target int) ([]int, int, api.Fault) {
	p, f := piled(m, s)
	if f != api.OK {
		return nil, 0, f
	}
	if most < 1 || most > api.MaxSheetsOf || target < 0 || target > api.MaxTarget {
		return nil, 0, api.ErrRange
	}
	var glue []int
	for _, one := range p.materials {
		if one.Kind == api.MatGlue {
			glue = append(glue, one.Thick)
		}
	}
	all := fewestSheets(glue, most)
	away := func(more int) int {
		n := p.thickness() + more - target
		return max(n, -n)
	}
	best := 0
	for more, n := range all.fewest {
		if n < never && away(more) < away(best) {
			best = more
		}
	}
	return all.numbers(glue, best), p.thickness() + best, api.OK
}

// never stands for how many sheets it takes to become thicker by what cannot be.
const never = 1 << 30

// sheets tells how layers of glue become thicker when more sheets than one are taken for them.
type sheets struct {
	fewest []int     // how many more it takes for all of them, by how much thicker they become
	chosen [][]uint8 // how many more each one has, by how much thicker it and those below it become
}

// fewestSheets starts with the lowest layer, so that the layers can be asked from the top on: of several ways with as few sheets, each layer chooses the one in which it has the fewest itself.
func fewestSheets(glue []int, most int) sheets {
	out := sheets{fewest: []int{0}, chosen: make([][]uint8, len(glue))}
	for i := len(glue) - 1; i >= 0; i-- {
		out.fewest, out.chosen[i] = onTop(out.fewest, glue[i], most)
	}
	return out
}

// onTop lays a layer on top of those for which it takes as many sheets as below says.
func onTop(below []int, thick, most int) (fewest []int, chosen []uint8) {
	fewest = slices.Repeat([]int{never}, len(below)+(most-1)*thick)
	chosen = make([]uint8, len(fewest))
	for n := range most {
		for more, k := range below {
			if at := more + n*thick; k+n < fewest[at] {
				fewest[at], chosen[at] = k+n, uint8(n)
			}
		}
	}
	return fewest, chosen
}

// numbers returns how many sheets each layer has, if all of them become thicker by so much.
func (s sheets) numbers(glue []int, more int) []int {
	var out []int
	for i, thick := range glue {
		n := int(s.chosen[i][more])
		out = append(out, 1+n)
		more -= n * thick
	}
	return out
}
