package stack

import (
	"slices"

	"etchhouse/api"
)

// Reached returns the coppers that can be joined with one by holes.
func Reached(m []api.Material, s []api.Layer, l []api.Through, name string) ([]string, api.Fault) {
	p, _, f := pressed(m, s, l)
	if f != api.OK {
		return nil, f
	}
	copper, ok := p.numbers[name]
	if !ok {
		return nil, api.ErrNone
	}
	joined := joints(l, len(p.coppers))
	first, last := copper, copper
	for first > 0 && joined[first-1] {
		first--
	}
	for last < len(joined) && joined[last] {
		last++
	}
	return slices.Clone(p.names[first : last+1]), api.OK
}

// joints says of each copper but the last one whether a hole joins it with the next one. As a hole joins all from its first to its last copper, the coppers that are joined over others always lie one after the other.
func joints(l []api.Through, coppers int) []bool {
	joined := make([]bool, coppers-1)
	for _, t := range l {
		for copper := t.From; copper < t.To; copper++ {
			joined[copper-1] = true
		}
	}
	return joined
}

// maxTenths is the bound of how many tenths of its size a hole may be deep.
const maxTenths = 1000

// Slim returns the numbers of the spans whose holes are deeper than most tenths of their size.
func Slim(m []api.Material, s []api.Layer, l []api.Through, sizes []int, most int) ([]int, api.Fault) {
	p, _, f := pressed(m, s, l)
	if f != api.OK {
		return nil, f
	}
	if len(sizes) != len(l) {
		return nil, api.ErrForm
	}
	for _, size := range sizes {
		if size < 1 || size > api.MaxThick {
			return nil, api.ErrRange
		}
	}
	if most < 1 || most > maxTenths {
		return nil, api.ErrRange
	}
	var out []int
	for i, t := range l {
		deep := p.bottom(t.To-1) - p.top(t.From-1)
		if 10*deep > most*sizes[i] {
			out = append(out, i)
		}
	}
	return out, api.OK
}

// Fewest returns the spans without those that are not needed.
func Fewest(m []api.Material, s []api.Layer, l []api.Through) ([]api.Through, api.Fault) {
	p, _, f := pressed(m, s, l)
	if f != api.OK {
		return nil, f
	}
	joined := joints(l, len(p.coppers))
	out := slices.Clone(l)
	for i := len(l) - 1; i >= 0; i-- {
		others := slices.Delete(slices.Clone(out), i, i+1)
		if CheckSpans(m, s, others) == api.OK && slices.Equal(joints(others, len(p.coppers)), joined) {
			out = others
		}
	}
	return out, api.OK
}
