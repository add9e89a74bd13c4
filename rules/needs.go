package rules

import (
	"math"
	"slices"
	"sort"

	"etchhouse/api"
)

// ruling is rules without faults.
type ruling struct {
	api.RuleSet
	classOf map[string]api.NetClass // of each net that has one
	areas   []api.RuleArea          // the greatest clearance first
}

func rulingOf(r api.RuleSet) (ruling, api.Fault) {
	if f := CheckRules(r); f != api.OK {
		return ruling{}, f
	}
	classOf := map[string]api.NetClass{}
	for _, c := range r.Classes {
		for _, net := range c.Nets {
			classOf[net] = c
		}
	}
	areas := slices.Clone(r.Areas)
	slices.SortStableFunc(areas, func(a, b api.RuleArea) int { return b.Clearance - a.Clearance })
	return ruling{r, classOf, areas}, api.OK
}

// width is what a net must have; a class without a width of its own has 0, as has none.
func (r ruling) width(net string) int {
	if own := r.classOf[net].Width; own > 0 {
		return own
	}
	return r.Width
}

func (r ruling) clearance(net string) int {
	if own := r.classOf[net].Clearance; own > 0 {
		return own
	}
	return r.Clearance
}

// between is the clearance between two nets where there is no area.
func (r ruling) between(netA, netB string) int {
	return max(r.clearance(netA), r.clearance(netB))
}

// needs is the clearance between two nets at a square of a layer.
func (r ruling) needs(netA, netB string, layer int, at api.Point) int {
	for _, area := range r.areas {
		if liesOn(area, layer) && has(area.Region, at) {
			return area.Clearance
		}
	}
	return r.between(netA, netB)
}

// has says whether a region has a square. Only one of its rectangles, which are in order, can do so: in the last band that does not begin above the square, the last one that does not begin at the right of it.
func has(r []api.Rect, at api.Point) bool {
	behind := func(y, x int) int {
		return sort.Search(len(r), func(i int) bool { return r[i].Y0 > y || r[i].Y0 == y && r[i].X0 > x })
	}
	band := behind(at.Y, math.MaxInt)
	if band == 0 {
		return false
	}
	last := behind(r[band-1].Y0, at.X)
	return last > 0 && at.X < r[last-1].X1 && at.Y < r[last-1].Y1
}

func liesOn(area api.RuleArea, layer int) bool {
	return area.Layer == allLayers || area.Layer == layer
}

// most is the greatest clearance that two nets can need anywhere.
func (r ruling) most() int {
	out := r.Clearance
	for _, c := range r.Classes {
		out = max(out, c.Clearance)
	}
	for _, area := range r.Areas {
		out = max(out, area.Clearance)
	}
	return out
}

// WidthOf returns the width that a net must have.
func WidthOf(r api.RuleSet, net string) (int, api.Fault) {
	rules, f := rulingOf(r)
	if f != api.OK {
		return 0, f
	}
	if !isNet(net) {
		return 0, api.ErrName
	}
	return rules.width(net), api.OK
}

// Needs returns the clearance that copper of two nets must have at a square of a layer.
func Needs(r api.RuleSet, netA, netB string, layer int, at api.Point) (int, api.Fault) {
	rules, f := rulingOf(r)
	if f != api.OK {
		return 0, f
	}
	if !isNet(netA) || !isNet(netB) {
		return 0, api.ErrName
	}
	if !isLayer(layer) || !isPlace(at.X) || !isPlace(at.Y) {
		return 0, api.ErrRange
	}
	return rules.needs(netA, netB, layer, at), api.OK
}

func isPlace(n int) bool {
	return n >= -api.MaxAt && n <= api.MaxAt
}
