package netlist

import (
	"strings"

	"etchhouse/api"
	"etchhouse/texts"
)

// book is types and sheets, found by their names. The sheets need not be right yet.
type book struct {
	types  []api.PartType
	sheets []api.Sheet
	kinds  map[string]int
	places map[string]int
	ports  map[int]map[string]int // of sheets that have been asked for
}

func newBook(t []api.PartType, l []api.Sheet) book {
	return book{
		types:  t,
		sheets: l,
		kinds:  numbered(t, typeName),
		places: numbered(l, func(s api.Sheet) string { return s.Name }),
		ports:  map[int]map[string]int{},
	}
}

// portsOf returns the places of the ports of a sheet.
func (b book) portsOf(sheet int) map[string]int {
	ports, ok := b.ports[sheet]
	if !ok {
		ports = numbered(b.sheets[sheet].Ports, func(port string) string { return port })
		b.ports[sheet] = ports
	}
	return ports
}

// CheckSheets validates sheets, which can use each other but not themselves.
func CheckSheets(t []api.PartType, l []api.Sheet) api.Fault {
	if f := CheckTypes(t); f != api.OK {
		return f
	}
	if len(l) > api.MaxSheets {
		return api.ErrLarge
	}
	b := newBook(t, l)
	for i := range l {
		if f := b.checkSheet(i); f != api.OK {
			return f
		}
		if i > 0 && l[i].Name <= l[i-1].Name {
			return api.ErrOrder
		}
	}
	if b.loops() {
		return api.ErrLoop
	}
	return api.OK
}

func (b book) checkSheet(i int) api.Fault {
	s := b.sheets[i]
	if !texts.IsWord(s.Name) {
		return api.ErrName
	}
	if f := checkPorts(s.Ports); f != api.OK {
		return f
	}
	if f := checkParts(s.Parts, b.kinds, texts.IsWord); f != api.OK {
		return f
	}
	if f := b.checkUses(s); f != api.OK {
		return f
	}
	return b.checkNets(s, b.portsOf(i))
}

func checkPorts(ports []string) api.Fault {
	if len(ports) > api.MaxPorts {
		return api.ErrLarge
	}
	for i, p := range ports {
		if !texts.IsWord(p) {
			return api.ErrName
		}
		if i > 0 && p <= ports[i-1] {
			return api.ErrOrder
		}
	}
	return api.OK
}

func (b book) checkUses(s api.Sheet) api.Fault {
	if len(s.Uses) > api.MaxUses {
		return api.ErrLarge
	}
	parts := numbered(s.Parts, partName)
	for i, u := range s.Uses {
		if !texts.IsWord(u.Name) {
			return api.ErrName
		}
		if _, ok := parts[u.Name]; ok {
			return api.ErrTwice
		}
		if _, ok := b.places[u.Sheet]; !ok {
			return api.ErrNone
		}
		if i > 0 && u.Name <= s.Uses[i-1].Name {
			return api.ErrOrder
		}
	}
	return api.OK
}

// checkNets needs the parts and uses of the sheet to be right.
func (b book) checkNets(s api.Sheet, ports map[string]int) api.Fault {
	if len(s.Nets) > api.MaxNets {
		return api.ErrLarge
	}
	hasPin := b.pinsOf(s)
	hasPort := func(port string) bool { _, ok := ports[port]; return ok }
	pinTaken, portTaken := once[api.Pin](), once[string]()
	for i, n := range s.Nets {
		if !texts.IsWord(n.Name) {
			return api.ErrName
		}
		if len(n.Pins) > api.MaxNetPins {
			return api.ErrLarge
		}
		if f := checkEach(n.Pins, hasPin, comparePins, pinTaken); f != api.OK {
			return f
		}
		if len(n.Ports) > api.MaxPorts {
			return api.ErrLarge
		}
		if f := checkEach(n.Ports, hasPort, strings.Compare, portTaken); f != api.OK {
			return f
		}
		if i > 0 && n.Name <= s.Nets[i-1].Name {
			return api.ErrOrder
		}
	}
	return api.OK
}

// once returns a function that says whether it has been asked for the same before.
func once[T comparable]() func(T) bool {
	seen := map[T]bool{}
	return func(e T) bool {
		if seen[e] {
			return true
		}
		seen[e] = true
		return false
	}
}

// pinsOf returns a function that says whether a sheet has a pin: that of a part, or a port of a use.
func (b book) pinsOf(s api.Sheet) func(api.Pin) bool {
	parts := numbered(s.Parts, partName)
	uses := numbered(s.Uses, func(u api.Use) string { return u.Name })
	return func(p api.Pin) bool {
		if i, ok := parts[p.Part]; ok {
			_, ok = pinOf(b.types[b.kinds[s.Parts[i].Type]], p.Pin)
			return ok
		}
		i, ok := uses[p.Part]
		if !ok {
			return false
		}
		_, ok = b.portsOf(b.places[s.Uses[i].Sheet])[p.Pin]
		return ok
	}
}

// loops says whether a sheet uses itself, over others; all sheets that are used must be there.
func (b book) loops() bool {
	const (
		open   = 1 // what it uses is being looked at
		closed = 2 // it leads to no loop
	)
	state := make([]int, len(b.sheets))
	var leads func(i int) bool
	leads = func(i int) bool {
		if state[i] != 0 {
			return state[i] == open
		}
		state[i] = open
		for _, u := range b.sheets[i].Uses {
			if leads(b.places[u.Sheet]) {
				return true
			}
		}
		state[i] = closed
		return false
	}
	for i := range b.sheets {
		if leads(i) {
			return true
		}
	}
	return false
}
