// Package netlist has lists of nets: parts, pins, sheets within sheets, findings and comparing.
package netlist

import (
	"etchhouse/api"
	"etchhouse/texts"
)

// CheckTypes validates types of parts.
func CheckTypes(t []api.PartType) api.Fault {
	if len(t) > api.MaxTypes {
		return api.ErrLarge
	}
	for i, one := range t {
		if f := checkType(one); f != api.OK {
			return f
		}
		if i > 0 && one.Name <= t[i-1].Name {
			return api.ErrOrder
		}
	}
	return api.OK
}

func checkType(one api.PartType) api.Fault {
	switch {
	case !texts.IsWord(one.Name):
		return api.ErrName
	case len(one.Pins) == 0:
		return api.ErrNone
	case len(one.Pins) > api.MaxTypePins:
		return api.ErrLarge
	}
	for i, p := range one.Pins {
		if f := checkPinType(p); f != api.OK {
			return f
		}
		if i > 0 && p.Name <= one.Pins[i-1].Name {
			return api.ErrOrder
		}
	}
	return checkGroups(one.Pins)
}

func checkPinType(p api.PinType) api.Fault {
	switch {
	case !texts.IsWord(p.Name):
		return api.ErrName
	case p.Kind < api.PinIn || p.Kind > api.PinFree:
		return api.ErrKind
	case p.Group < 0 || p.Group > api.MaxTypePins:
		return api.ErrRange
	}
	return api.OK
}

// checkGroups needs groups in their range.
func checkGroups(pins []api.PinType) api.Fault {
	var kinds [api.MaxTypePins + 1]int
	for _, p := range pins {
		if p.Group == 0 {
			continue
		}
		if kinds[p.Group] == 0 {
			kinds[p.Group] = p.Kind
		}
		if kinds[p.Group] != p.Kind {
			return api.ErrClash
		}
	}
	return api.OK
}

// checkParts validates the parts of a sheet or a list; isName says which names they can have.
func checkParts(parts []api.Part, kinds map[string]int, isName func(string) bool) api.Fault {
	if len(parts) > api.MaxParts {
		return api.ErrLarge
	}
	for i, p := range parts {
		if !isName(p.Name) {
			return api.ErrName
		}
		if _, ok := kinds[p.Type]; !ok {
			return api.ErrNone
		}
		if i > 0 && p.Name <= parts[i-1].Name {
			return api.ErrOrder
		}
	}
	return api.OK
}
