package stack

import (
	"slices"

	"etchhouse/api"
)

// Thickness returns how thick a stack is.
func Thickness(m []api.Material, s []api.Layer) (int, api.Fault) {
	p, f := piled(m, s)
	if f != api.OK {
		return 0, f
	}
	return p.thickness(), api.OK
}

// Depth returns how deep the top of a copper lies below that of the stack.
func Depth(m []api.Material, s []api.Layer, name string) (int, api.Fault) {
	p, f := piled(m, s)
	if f != api.OK {
		return 0, f
	}
	copper, ok := p.numbers[name]
	if !ok {
		return 0, api.ErrNone
	}
	return p.top(copper), api.OK
}

// Apart returns how thick all is that lies between two coppers.
func Apart(m []api.Material, s []api.Layer, a, b string) (int, api.Fault) {
	p, f := piled(m, s)
	if f != api.OK {
		return 0, f
	}
	first, isFirst := p.numbers[a]
	second, isSecond := p.numbers[b]
	if !isFirst || !isSecond {
		return 0, api.ErrNone
	}
	if first == second {
		return 0, api.OK
	}
	return p.top(max(first, second)) - p.bottom(min(first, second)), api.OK
}

// Mirrored returns a stack the other way round.
func Mirrored(m []api.Material, s []api.Layer) ([]api.Layer, api.Fault) {
	if f := CheckStack(m, s); f != api.OK {
		return nil, f
	}
	out := slices.Clone(s)
	slices.Reverse(out)
	return out, api.OK
}

// Bow returns by how much a stack bows.
func Bow(m []api.Material, s []api.Layer) (int, api.Fault) {
	p, f := piled(m, s)
	if f != api.OK {
		return 0, f
	}
	bow := 0
	for i, one := range p.materials {
		bow += one.Thick * one.Grow * (2*p.tops[i] + one.Thick - p.thickness())
	}
	return bow, api.OK
}
