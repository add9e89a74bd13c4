package netlist

import (
	"slices"

	"etchhouse/api"
)

// Findings returns what is not right: net by net, then the pins that should be in one.
func Findings(t []api.PartType, x api.Netlist) ([]api.Finding, api.Fault) {
	w, f := wire(t, x)
	if f != api.OK {
		return nil, f
	}
	var found []api.Finding
	for i, n := range x.Nets {
		found = append(found, w.findingsOf(n, w.pins[i])...)
	}
	w.eachLoose(func(s spot) {
		p := w.pinType(s)
		if p.Kind != api.PinFree && p.Kind != api.PinPassive {
			pin := api.Pin{Part: x.Parts[s.part].Name, Pin: p.Name}
			found = append(found, api.Finding{Kind: api.FindOpen, Pins: []api.Pin{pin}})
		}
	})
	return found, api.OK
}

func (w *wiring) findingsOf(n api.Net, spots []spot) []api.Finding {
	of := func(kinds ...int) []api.Pin {
		var pins []api.Pin
		for i, s := range spots {
			if slices.Contains(kinds, w.pinType(s).Kind) {
				pins = append(pins, n.Pins[i])
			}
		}
		return pins
	}
	var found []api.Finding
	tell := func(kind int, pins []api.Pin) {
		found = append(found, api.Finding{Kind: kind, Net: n.Name, Pins: pins})
	}
	outs, sources := len(of(api.PinOut)), len(of(api.PinSource))
	if outs > 1 || outs == 1 && sources > 0 {
		tell(api.FindTwo, of(api.PinOut, api.PinSource))
	}
	drivers := of(api.PinOut, api.PinBoth, api.PinPassive, api.PinSource)
	if ins := of(api.PinIn); len(ins) > 0 && len(drivers) == 0 {
		tell(api.FindNone, ins)
	}
	if needs := of(api.PinPower); len(needs) > 0 && sources == 0 {
		tell(api.FindPower, needs)
	}
	free := of(api.PinFree)
	if len(free) > 0 {
		tell(api.FindFree, free)
	}
	if len(n.Pins) == 1 && len(free) == 0 {
		tell(api.FindOne, slices.Clone(n.Pins))
	}
	return found
}

// Changes returns how two lists differ by their names.
func Changes(t []api.PartType, a, b api.Netlist) ([]api.ListChange, api.Fault) {
	wa, wb, f := wireBoth(t, a, b)
	if f != api.OK {
		return nil, f
	}
	changes := onlyFirst(api.ListPartNew, b.Parts, wa.parts)
	changes = append(changes, onlyFirst(api.ListPartGone, a.Parts, wb.parts)...)
	var pins []api.ListChange
	for i, p := range a.Parts {
		k, both := wb.parts[p.Name]
		switch {
		case !both:
		case p.Type != b.Parts[k].Type:
			changes = append(changes, api.ListChange{Kind: api.ListPartType, Name: p.Name})
		default:
			for pin, one := range t[wa.kinds[i]].Pins {
				if nameAt(a, wa.nets[i][pin]) != nameAt(b, wb.nets[k][pin]) {
					pins = append(pins, api.ListChange{Kind: api.ListPinNet, Name: p.Name, Pin: one.Name})
				}
			}
		}
	}
	return append(changes, pins...), api.OK
}

// onlyFirst tells the parts that are not among others.
func onlyFirst(kind int, parts []api.Part, others map[string]int) []api.ListChange {
	var changes []api.ListChange
	for _, p := range parts {
		if _, ok := others[p.Name]; !ok {
			changes = append(changes, api.ListChange{Kind: kind, Name: p.Name})
		}
	}
	return changes
}

// nameAt is the name of a net, empty for none, which no net is called.
func nameAt(x api.Netlist, net int) string {
	if net == none {
		return ""
	}
	return x.Nets[net].Name
}
