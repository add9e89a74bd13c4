package stack

import (
	"slices"

	"etchhouse/api"
)

// coppers is a set of coppers, the bit n of which stands for the copper n.
type coppers uint64

func setOf(from, to int) coppers {
	var out coppers
	for n := from; n <= to; n++ {
		out |= 1 << n
	}
	return out
}

func (c coppers) has(n int) bool { return c&(1<<n) != 0 }

// ends returns the first and the last one of a set without gaps.
func (c coppers) ends() (int, int) {
	from := 1
	for !c.has(from) {
		from++
	}
	to := from
	for c.has(to + 1) {
		to++
	}
	return from, to
}

// model is a stack of someMaterials without faults, and spans in order and in range, as K3 tells of them.
type model struct {
	many  int // coppers
	cores []coppers
	spans []coppers
}

func modelOf(s []api.Layer, l []api.Through) model {
	var out model
	for _, one := range s {
		if one.Name != "" {
			out.many++
		}
		if one.Material == "k" || one.Material == "l" {
			out.cores = append(out.cores, setOf(out.many, out.many+1))
		}
	}
	for _, t := range l {
		out.spans = append(out.spans, setOf(t.From, t.To))
	}
	return out
}

func (m model) boards() []coppers {
	var out []coppers
	for _, set := range slices.Concat(m.cores, m.spans, []coppers{setOf(1, m.many)}) {
		if !slices.Contains(out, set) {
			out = append(out, set)
		}
	}
	return out
}

func (m model) fault() api.Fault {
	boards := m.boards()
	for _, a := range boards {
		for _, b := range boards {
			if common := a & b; common != 0 && common != a && common != b {
				return api.ErrClash
			}
		}
	}
	for _, a := range boards {
		from, to := a.ends()
		held := setOf(from, from) | setOf(to, to)
		for _, b := range boards {
			if b != a && b&a == b {
				held |= b
			}
		}
		if held != a {
			return api.ErrState
		}
	}
	return api.OK
}

// presses makes first the cores, then all boards of two coppers, of three, and so on.
func (m model) presses() []api.Press {
	var out []api.Press
	add := func(set coppers, core bool) {
		var one api.Press
		one.From, one.To = set.ends()
		one.Core = core
		for i, span := range m.spans {
			if span == set {
				one.Holes = append(one.Holes, i)
			}
		}
		out = append(out, one)
	}
	for _, set := range m.cores {
		add(set, true)
	}
	boards := m.boards()
	for many := 2; many <= m.many; many++ {
		for from := 1; from+many-1 <= m.many; from++ {
			set := setOf(from, from+many-1)
			if slices.Contains(boards, set) && !slices.Contains(m.cores, set) {
				add(set, false)
			}
		}
	}
	return out
}

func (m model) cycles() []int {
	var out []int
	for n := 1; n <= m.many; n++ {
		times := 0
		for _, set := range m.boards() {
			if set.has(n) && !slices.Contains(m.cores, set) {
				times++
			}
		}
		out = append(out, times)
	}
	return out
}

// reached goes on from a copper by one hole after the other.
func (m model) reached(copper int) coppers {
	out := setOf(copper, copper)
	for {
		more := out
		for _, span := range m.spans {
			if span&out != 0 {
				more |= span
			}
		}
		if more == out {
			return out
		}
		out = more
	}
}

// fewest returns the numbers of the spans that are needed.
func (m model) fewest() []int {
	kept := make([]bool, len(m.spans))
	rest := func() model {
		out := model{many: m.many, cores: m.cores}
		for i, span := range m.spans {
			if kept[i] {
				out.spans = append(out.spans, span)
			}
		}
		return out
	}
	for i := range kept {
		kept[i] = true
	}
	for i := len(kept) - 1; i >= 0; i-- {
		kept[i] = false
		without := rest()
		kept[i] = without.fault() != api.OK || !m.reachesAs(without)
	}
	var out []int
	for i, is := range kept {
		if is {
			out = append(out, i)
		}
	}
	return out
}

// reachesAs says whether each copper reaches the same by the holes of two models.
func (m model) reachesAs(other model) bool {
	for n := 1; n <= m.many; n++ {
		if m.reached(n) != other.reached(n) {
			return false
		}
	}
	return true
}
