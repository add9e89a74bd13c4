package netlist

import (
	"slices"
	"strings"

	"etchhouse/api"
)

// seat is a use in an instance of a sheet, by its number.
type seat struct {
	instance int
	use      string
}

// instance is a sheet in one of the places where it is used.
type instance struct {
	sheet  int
	prefix string // what stands before names of its own
}

// whole is a sheet with all that it uses.
type whole struct {
	book
	instances []instance
	below     map[seat]int // instances by where they are used
	first     []int        // number of the first net of each instance
	nets      joints
}

// Flat returns the list of a sheet with all that it uses.
func Flat(t []api.PartType, l []api.Sheet, top string) (api.Netlist, api.Fault) {
	if f := CheckSheets(t, l); f != api.OK {
		return api.Netlist{}, f
	}
	w := whole{book: newBook(t, l), below: map[seat]int{}}
	place, ok := w.places[top]
	if !ok {
		return api.Netlist{}, api.ErrNone
	}
	if w.instancesOf(place) > api.MaxInstances {
		return api.Netlist{}, api.ErrLarge
	}
	w.spread(place)
	parts, f := w.flatParts()
	if f != api.OK {
		return api.Netlist{}, f
	}
	w.joinNets()
	nets, f := w.flatNets()
	if f != api.OK {
		return api.Netlist{}, f
	}
	return api.Netlist{Parts: parts, Nets: nets}, api.OK
}

// instancesOf counts a sheet and all that it uses, up to one more than there may be.
func (w *whole) instancesOf(sheet int) int {
	known := map[int]int{}
	var count func(sheet int) int
	count = func(sheet int) int {
		if n, ok := known[sheet]; ok {
			return n
		}
		n := 1
		for _, u := range w.sheets[sheet].Uses {
			n = min(n+count(w.places[u.Sheet]), api.MaxInstances+1)
		}
		known[sheet] = n
		return n
	}
	return count(sheet)
}

// spread makes the instances, each one before those that it uses: what joins nets leads from one instance to such as it uses, so the first one with a joined net has fewer words before it than all others, and the first net of it is the least.
func (w *whole) spread(top int) {
	w.instances = []instance{{sheet: top}}
	for i := 0; i < len(w.instances); i++ {
		one := w.instances[i]
		for _, u := range w.sheets[one.sheet].Uses {
			w.below[seat{i, u.Name}] = len(w.instances)
			w.instances = append(w.instances, instance{w.places[u.Sheet], one.prefix + u.Name + "/"})
		}
	}
}

func (w *whole) flatParts() ([]api.Part, api.Fault) {
	var parts []api.Part
	for _, one := range w.instances {
		for _, p := range w.sheets[one.sheet].Parts {
			p.Name = one.prefix + p.Name
			if len(parts) == api.MaxParts || len(p.Name) > api.MaxPath {
				return nil, api.ErrLarge
			}
			parts = append(parts, p)
		}
	}
	slices.SortFunc(parts, func(a, b api.Part) int { return strings.Compare(a.Name, b.Name) })
	return parts, api.OK
}

// joinNets numbers the nets of all instances, and joins those that a port of a use connects.
func (w *whole) joinNets() {
	total := 0
	for _, one := range w.instances {
		w.first = append(w.first, total)
		total += len(w.sheets[one.sheet].Nets)
	}
	w.nets = newJoints(total)
	inside := make([]map[string]int, len(w.sheets))
	for i, s := range w.sheets {
		inside[i] = netsOfPorts(s)
	}
	for i, one := range w.instances {
		for k, n := range w.sheets[one.sheet].Nets {
			for _, p := range n.Pins {
				use, isUse := w.below[seat{i, p.Part}]
				if !isUse {
					continue
				}
				if net, ok := inside[w.instances[use].sheet][p.Pin]; ok {
					w.nets.join(w.first[i]+k, w.first[use]+net)
				}
			}
		}
	}
}

// netsOfPorts tells which net of a sheet has a port.
func netsOfPorts(s api.Sheet) map[string]int {
	nets := map[string]int{}
	for i, n := range s.Nets {
		for _, port := range n.Ports {
			nets[port] = i
		}
	}
	return nets
}

func (w *whole) flatNets() ([]api.Net, api.Fault) {
	pins := w.flatPins()
	if len(pins) > api.MaxNets {
		return nil, api.ErrLarge
	}
	var nets []api.Net
	for number, l := range pins {
		n := api.Net{Name: w.netName(number), Pins: l}
		if len(n.Name) > api.MaxPath || len(n.Pins) > api.MaxNetPins {
			return nil, api.ErrLarge
		}
		slices.SortFunc(n.Pins, comparePins)
		nets = append(nets, n)
	}
	slices.SortFunc(nets, func(a, b api.Net) int { return strings.Compare(a.Name, b.Name) })
	return nets, api.OK
}

// flatPins returns the pins of parts, by the number of the net that gives the joined one its name.
func (w *whole) flatPins() map[int][]api.Pin {
	pins := map[int][]api.Pin{}
	for i, one := range w.instances {
		for k, n := range w.sheets[one.sheet].Nets {
			number := w.nets.least(w.first[i] + k)
			for _, p := range n.Pins {
				if _, isUse := w.below[seat{i, p.Part}]; !isUse {
					pins[number] = append(pins[number], api.Pin{Part: one.prefix + p.Part, Pin: p.Pin})
				}
			}
		}
	}
	return pins
}

// netName is the path of a net by its number.
func (w *whole) netName(number int) string {
	behind, _ := slices.BinarySearch(w.first, number+1)
	i := behind - 1 // the last instance that does not begin behind the net: those without nets begin where it does
	one := w.instances[i]
	return one.prefix + w.sheets[one.sheet].Nets[number-w.first[i]].Name
}
