// Package rules has design rules: for distances, widths, rings around holes and edges; and what breaks them, where, and by how much.
package rules

import (
	"etchhouse/api"
	"etchhouse/shape"
	"etchhouse/texts"
)

// allLayers is the layer of an area that lies on all of them.
const allLayers = -1

// CheckRules validates rules.
func CheckRules(r api.RuleSet) api.Fault {
	for _, n := range []int{r.Clearance, r.Width, r.Ring, r.Edge, r.HoleGap} {
		if !isRule(n) {
			return api.ErrRange
		}
	}
	if f := checkClasses(r.Classes); f != api.OK {
		return f
	}
	return checkAreas(r.Areas)
}

func isRule(n int) bool {
	return n >= 0 && n <= api.MaxRule
}

func checkClasses(classes []api.NetClass) api.Fault {
	if len(classes) > api.MaxClasses {
		return api.ErrLarge
	}
	taken := map[string]bool{} // nets of earlier classes
	for i, c := range classes {
		if f := checkClass(c, taken); f != api.OK {
			return f
		}
		if i > 0 && c.Name <= classes[i-1].Name {
			return api.ErrOrder
		}
	}
	return api.OK
}

// checkClass validates a class but for its order, and takes its nets.
func checkClass(c api.NetClass, taken map[string]bool) api.Fault {
	if !texts.IsWord(c.Name) {
		return api.ErrName
	}
	if len(c.Nets) > api.MaxNets {
		return api.ErrLarge
	}
	for i, net := range c.Nets {
		switch {
		case !texts.IsPath(net):
			return api.ErrName
		case i > 0 && net <= c.Nets[i-1]:
			return api.ErrOrder
		case taken[net]:
			return api.ErrTwice
		}
		taken[net] = true
	}
	if !isRule(c.Clearance) || !isRule(c.Width) {
		return api.ErrRange
	}
	return api.OK
}

func checkAreas(areas []api.RuleArea) api.Fault {
	if len(areas) > api.MaxAreas {
		return api.ErrLarge
	}
	rects := 0
	for _, a := range areas {
		if a.Layer != allLayers && !isLayer(a.Layer) {
			return api.ErrRange
		}
		if f := shape.CheckRegion(a.Region); f != api.OK {
			return f
		}
		if !isRule(a.Clearance) {
			return api.ErrRange
		}
		rects += len(a.Region)
	}
	if rects > api.MaxRects {
		return api.ErrLarge
	}
	return api.OK
}

func isLayer(n int) bool {
	return n >= 0 && n < api.MaxCoppers
}

// isNet says whether a name is that of a net, or the empty one of a group without a net.
func isNet(name string) bool {
	return name == "" || texts.IsPath(name)
}
