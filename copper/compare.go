package copper

import (
	"slices"

	"etchhouse/api"
	"etchhouse/netlist"
)

// Compare says what differs from a list of nets.
func Compare(t []api.PartType, x api.Netlist, a api.Art) ([]api.Wrong, api.Fault) {
	if f := netlist.CheckList(t, x); f != api.OK {
		return nil, f
	}
	b, f := drilled(a)
	if f != api.OK {
		return nil, f
	}
	groups, ofPin := b.groups()
	p := planOf(t, x)
	return slices.Concat(p.missing(ofPin), p.opens(ofPin), p.shorts(groups), p.extra(b.lands)), api.OK
}

// plan is what a list without faults says of pins.
type plan struct {
	nets  []api.Net
	netOf map[api.Pin]int      // the number of the net of each pin that is in one
	has   func(p api.Pin) bool // whether a pin is that of a part of the list
}

func planOf(t []api.PartType, x api.Netlist) plan {
	pinsOf := map[string][]api.PinType{} // of a type
	for _, one := range t {
		pinsOf[one.Name] = one.Pins
	}
	typeOf := map[string]string{} // of a part
	for _, part := range x.Parts {
		typeOf[part.Name] = part.Type
	}
	has := func(p api.Pin) bool {
		return slices.ContainsFunc(pinsOf[typeOf[p.Part]], func(q api.PinType) bool { return q.Name == p.Pin })
	}
	netOf := map[api.Pin]int{}
	for i, n := range x.Nets {
		for _, p := range n.Pins {
			netOf[p] = i
		}
	}
	return plan{x.Nets, netOf, has}
}

// missing tells all pins of nets that have no land.
func (p plan) missing(groupOf map[api.Pin]int) []api.Wrong {
	var pins []api.Pin
	for _, n := range p.nets {
		for _, one := range n.Pins {
			if _, ok := groupOf[one]; !ok {
				pins = append(pins, one)
			}
		}
	}
	return wrongIfAny(api.WrongMissing, pins)
}

// wrongIfAny tells pins that are wrong, if there are any.
func wrongIfAny(kind int, pins []api.Pin) []api.Wrong {
	if len(pins) == 0 {
		return nil
	}
	return []api.Wrong{{Kind: kind, Pins: pins}}
}

// opens tells each net whose pins that have lands lie in several groups.
func (p plan) opens(groupOf map[api.Pin]int) []api.Wrong {
	var out []api.Wrong
	for _, n := range p.nets {
		if parts := partsOf(n.Pins, groupOf); len(parts) > 1 {
			out = append(out, api.Wrong{Kind: api.WrongOpen, Nets: []string{n.Name}, Pins: slices.Concat(parts...)})
		}
	}
	return out
}

// partsOf returns those of some pins that have lands, group by group, by their first pins; a pin without a group is by itself.
func partsOf(pins []api.Pin, groupOf map[api.Pin]int) [][]api.Pin {
	var parts [][]api.Pin
	place := map[int]int{} // of the pins of a group
	for _, one := range pins {
		group, ok := groupOf[one]
		if !ok {
			continue
		}
		at, known := place[group]
		if !known || group == noGroup {
			at = len(parts)
			place[group] = at
			parts = append(parts, nil)
		}
		parts[at] = append(parts[at], one)
	}
	return parts
}

// shorts tells each group that has pins of several nets, or loose ones that are not alone.
func (p plan) shorts(groups []api.Group) []api.Wrong {
	var out []api.Wrong
	for _, g := range groups {
		var pins []api.Pin
		var nets []int
		loose := 0
		for _, one := range g.Pins {
			if !p.has(one) {
				continue
			}
			pins = append(pins, one)
			if net, ok := p.netOf[one]; ok {
				nets = append(nets, net)
			} else {
				loose++
			}
		}
		slices.Sort(nets)
		nets = slices.Compact(nets)
		if len(nets)+loose > 1 {
			out = append(out, api.Wrong{Kind: api.WrongShort, Nets: p.names(nets), Pins: pins})
		}
	}
	return out
}

func (p plan) names(nets []int) []string {
	var out []string
	for _, i := range nets {
		out = append(out, p.nets[i].Name)
	}
	return out
}

// extra tells all lands of pins that no part of the list has.
func (p plan) extra(lands []api.Land) []api.Wrong {
	var pins []api.Pin
	for _, l := range lands {
		if one := pinOf(l); !p.has(one) {
			pins = append(pins, one)
		}
	}
	return wrongIfAny(api.WrongExtra, pins)
}
