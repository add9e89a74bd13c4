package netlist

import (
	"slices"

	"etchhouse/api"
	"etchhouse/texts"
)

// none stands for the net of a loose pin.
const none = -1

// spot is a pin by numbers: of its part in the list, and of itself in the type.
type spot struct{ part, pin int }

// wiring is a list that is right, by numbers.
type wiring struct {
	types []api.PartType
	parts map[string]int
	kinds []int    // the type of each part
	nets  [][]int  // the net, or none, of each pin of each part
	pins  [][]spot // the pins of each net
}

// wire validates a list, and numbers what is in it.
func wire(t []api.PartType, x api.Netlist) (wiring, api.Fault) {
	if f := CheckTypes(t); f != api.OK {
		return wiring{}, f
	}
	kinds := numbered(t, typeName)
	if f := checkParts(x.Parts, kinds, texts.IsPath); f != api.OK {
		return wiring{}, f
	}
	if len(x.Nets) > api.MaxNets {
		return wiring{}, api.ErrLarge
	}
	w := wiring{types: t, parts: numbered(x.Parts, partName)}
	for _, p := range x.Parts {
		kind := kinds[p.Type]
		w.kinds = append(w.kinds, kind)
		w.nets = append(w.nets, slices.Repeat([]int{none}, len(t[kind].Pins)))
	}
	for i, n := range x.Nets {
		if f := w.take(n); f != api.OK {
			return wiring{}, f
		}
		if i > 0 && n.Name <= x.Nets[i-1].Name {
			return wiring{}, api.ErrOrder
		}
	}
	return w, api.OK
}

// wireBoth does so with two lists.
func wireBoth(t []api.PartType, a, b api.Netlist) (wiring, wiring, api.Fault) {
	wa, f := wire(t, a)
	if f != api.OK {
		return wiring{}, wiring{}, f
	}
	wb, f := wire(t, b)
	if f != api.OK {
		return wiring{}, wiring{}, f
	}
	return wa, wb, api.OK
}

// take validates the next net but for its order, and notes its pins.
func (w *wiring) take(n api.Net) api.Fault {
	switch {
	case !texts.IsPath(n.Name):
		return api.ErrName
	case len(n.Pins) == 0:
		return api.ErrNone
	case len(n.Pins) > api.MaxNetPins:
		return api.ErrLarge
	}
	var pins []spot
	var s spot
	there := func(p api.Pin) (ok bool) { s, ok = w.find(p); return }
	taken := func(api.Pin) bool {
		if w.netAt(s) != none {
			return true
		}
		w.nets[s.part][s.pin] = len(w.pins)
		pins = append(pins, s)
		return false
	}
	if f := checkEach(n.Pins, there, comparePins, taken); f != api.OK {
		return f
	}
	if len(n.Ports) > 0 {
		return api.ErrForm
	}
	w.pins = append(w.pins, pins)
	return api.OK
}

func (w *wiring) find(p api.Pin) (spot, bool) {
	part, ok := w.parts[p.Part]
	if !ok {
		return spot{}, false
	}
	pin, ok := pinOf(w.types[w.kinds[part]], p.Pin)
	return spot{part, pin}, ok
}

func (w *wiring) netAt(s spot) int { return w.nets[s.part][s.pin] }

func (w *wiring) pinType(s spot) api.PinType { return w.types[w.kinds[s.part]].Pins[s.pin] }

// CheckList validates a list.
func CheckList(t []api.PartType, x api.Netlist) api.Fault {
	_, f := wire(t, x)
	return f
}

// NetOf returns the name of the net of a pin, and whether it is in one.
func NetOf(t []api.PartType, x api.Netlist, p api.Pin) (string, bool, api.Fault) {
	w, f := wire(t, x)
	if f != api.OK {
		return "", false, f
	}
	s, ok := w.find(p)
	if !ok {
		return "", false, api.ErrNone
	}
	net := w.netAt(s)
	if net == none {
		return "", false, api.OK
	}
	return x.Nets[net].Name, true, api.OK
}

// Loose returns the pins that are in no net, by part, then by pin.
func Loose(t []api.PartType, x api.Netlist) ([]api.Pin, api.Fault) {
	w, f := wire(t, x)
	if f != api.OK {
		return nil, f
	}
	var loose []api.Pin
	w.eachLoose(func(s spot) {
		loose = append(loose, api.Pin{Part: x.Parts[s.part].Name, Pin: w.pinType(s).Name})
	})
	return loose, api.OK
}

// eachLoose shows the pins that are in no net, in order.
func (w *wiring) eachLoose(show func(spot)) {
	for part, nets := range w.nets {
		for pin, net := range nets {
			if net == none {
				show(spot{part, pin})
			}
		}
	}
}

// Joined returns the list in which two nets are one.
func Joined(t []api.PartType, x api.Netlist, a, b string) (api.Netlist, api.Fault) {
	if f := CheckList(t, x); f != api.OK {
		return api.Netlist{}, f
	}
	places := numbered(x.Nets, netName)
	i, okA := places[a]
	k, okB := places[b]
	if !okA || !okB {
		return api.Netlist{}, api.ErrNone
	}
	if i == k {
		return api.Netlist{}, api.ErrClash
	}
	i, k = min(i, k), max(i, k) // the lesser name stands first
	pins := slices.Concat(x.Nets[i].Pins, x.Nets[k].Pins)
	if len(pins) > api.MaxNetPins {
		return api.Netlist{}, api.ErrLarge
	}
	slices.SortFunc(pins, comparePins)
	y := copied(x)
	y.Nets[i].Pins = pins
	y.Nets = slices.Delete(y.Nets, k, k+1)
	return y, api.OK
}

// copied returns a list in memory of its own.
func copied(x api.Netlist) api.Netlist {
	y := api.Netlist{Parts: slices.Clone(x.Parts), Nets: slices.Clone(x.Nets)}
	for i, n := range x.Nets {
		y.Nets[i] = api.Net{Name: n.Name, Pins: slices.Clone(n.Pins)}
	}
	return y
}

// Without returns the list without some parts and their pins.
func Without(t []api.PartType, x api.Netlist, parts []string) (api.Netlist, api.Fault) {
	w, f := wire(t, x)
	if f != api.OK {
		return api.Netlist{}, f
	}
	if f := checkNames(parts, api.MaxParts, w.parts); f != api.OK {
		return api.Netlist{}, f
	}
	goes := func(part string) bool { _, ok := slices.BinarySearch(parts, part); return ok }
	y := copied(x)
	y.Parts = slices.DeleteFunc(y.Parts, func(p api.Part) bool { return goes(p.Name) })
	for i := range y.Nets {
		y.Nets[i].Pins = slices.DeleteFunc(y.Nets[i].Pins, func(p api.Pin) bool { return goes(p.Part) })
	}
	y.Nets = slices.DeleteFunc(y.Nets, func(n api.Net) bool { return len(n.Pins) == 0 })
	return y, api.OK
}

// Islands returns the parts that hang together by nets that are not left out.
func Islands(t []api.PartType, x api.Netlist, without []string) ([][]string, api.Fault) {
	w, f := wire(t, x)
	if f != api.OK {
		return nil, f
	}
	if f := checkNames(without, api.MaxNets, numbered(x.Nets, netName)); f != api.OK {
		return nil, f
	}
	parts := newJoints(len(x.Parts))
	for i, pins := range w.pins {
		if _, out := slices.BinarySearch(without, x.Nets[i].Name); out {
			continue
		}
		for _, s := range pins {
			parts.join(pins[0].part, s.part)
		}
	}
	return islandsOf(parts, x.Parts), api.OK
}

// islandsOf returns the names of parts that are joined. The least of an island comes first: so the islands come by their first parts.
func islandsOf(joined joints, parts []api.Part) [][]string {
	var islands [][]string
	place := map[int]int{} // of an island, by its least part
	for i, p := range parts {
		least := joined.least(i)
		if least == i {
			place[i] = len(islands)
			islands = append(islands, nil)
		}
		islands[place[least]] = append(islands[place[least]], p.Name)
	}
	return islands
}
