package stack

import (
	"cmp"
	"slices"

	"etchhouse/api"
)

// CheckSpans validates the spans of holes through a stack.
func CheckSpans(m []api.Material, s []api.Layer, l []api.Through) api.Fault {
	_, _, f := pressed(m, s, l)
	return f
}

// Presses returns the sub-boards in the order in which they are made.
func Presses(m []api.Material, s []api.Layer, l []api.Through) ([]api.Press, api.Fault) {
	_, boards, f := pressed(m, s, l)
	return boards, f
}

// Cycles returns how often each copper is pressed.
func Cycles(m []api.Material, s []api.Layer, l []api.Through) ([]int, api.Fault) {
	p, boards, f := pressed(m, s, l)
	if f != api.OK {
		return nil, f
	}
	out := make([]int, len(p.coppers))
	for _, b := range boards {
		if b.Core {
			continue
		}
		for copper := b.From; copper <= b.To; copper++ {
			out[copper-1]++
		}
	}
	return out, api.OK
}

// pressed lays a stack up, and returns its sub-boards in the order in which they are made, if neither it nor the spans have a fault.
func pressed(m []api.Material, s []api.Layer, l []api.Through) (*pile, []api.Press, api.Fault) {
	p, f := piled(m, s)
	if f != api.OK {
		return nil, nil, f
	}
	if f := checkRow(l, len(p.coppers)); f != api.OK {
		return nil, nil, f
	}
	boards := p.boards(l)
	if f := checkBoards(boards); f != api.OK {
		return nil, nil, f
	}
	return p, boards, api.OK
}

// checkRow validates spans each by itself, and their order.
func checkRow(l []api.Through, coppers int) api.Fault {
	if len(l) > api.MaxSpans {
		return api.ErrLarge
	}
	for i, t := range l {
		if t.From < 1 || t.To > coppers || t.To <= t.From {
			return api.ErrRange
		}
		if i > 0 && compareSpans(t, l[i-1]) <= 0 {
			return api.ErrOrder
		}
	}
	return api.OK
}

func compareSpans(a, b api.Through) int {
	return cmp.Or(cmp.Compare(a.From, b.From), cmp.Compare(a.To, b.To))
}

// boards returns the sub-boards: the cores, the spans and the whole stack, each once, in the order in which they are made.
func (p *pile) boards(l []api.Through) []api.Press {
	found := map[api.Through]*api.Press{}
	board := func(from, to int) *api.Press {
		t := api.Through{From: from, To: to}
		if found[t] == nil {
			found[t] = &api.Press{From: from, To: to}
		}
		return found[t]
	}
	for i, layer := range p.coppers[1:] {
		if p.materials[layer-1].Kind == api.MatCore {
			board(i+1, i+2).Core = true
		}
	}
	for i, t := range l {
		b := board(t.From, t.To)
		b.Holes = append(b.Holes, i)
	}
	board(1, len(p.coppers))
	var out []api.Press
	for _, b := range found {
		out = append(out, *b)
	}
	slices.SortFunc(out, compareBoards)
	return out
}

// compareBoards puts that first which is made first.
func compareBoards(a, b api.Press) int {
	return cmp.Or(cmp.Compare(turn(a), turn(b)), cmp.Compare(a.From, b.From))
}

// turn is less for what is made earlier: all cores come before anything is pressed.
func turn(b api.Press) int {
	if b.Core {
		return 0
	}
	return long(b)
}

func long(b api.Press) int {
	return b.To - b.From
}

// checkBoards asks whether all sub-boards can be made.
func checkBoards(boards []api.Press) api.Fault {
	for i, a := range boards {
		for _, b := range boards[:i] {
			if clash(a, b) {
				return api.ErrClash
			}
		}
	}
	for _, b := range boards {
		if hasLoose(b, boards) {
			return api.ErrState
		}
	}
	return api.OK
}

// clash says whether two sub-boards have a copper in common, though none lies within the other one.
func clash(a, b api.Press) bool {
	return a.From <= b.To && b.From <= a.To && !within(a, b) && !within(b, a)
}

func within(a, b api.Press) bool {
	return b.From <= a.From && a.To <= b.To
}

// hasLoose says whether a copper between the ends of a sub-board lies in no other one within it.
func hasLoose(b api.Press, boards []api.Press) bool {
	for copper := b.From + 1; copper < b.To; copper++ {
		holds := func(a api.Press) bool {
			return long(a) < long(b) && within(a, b) && a.From <= copper && copper <= a.To
		}
		if !slices.ContainsFunc(boards, holds) {
			return true
		}
	}
	return false
}
