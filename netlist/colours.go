package netlist

import (
	"cmp"
	"slices"
	"strings"

	"etchhouse/api"
)

// wide is greater than all colours and marks: two of them are put into one number by it.
const wide = 1 << 20

// tie is a pin as a part or a net sees it: its mark, and the node on the other side, or none.
type tie struct{ mark, other int }

// web is lists put together without their names: its nodes are the parts, then the nets of all lists.
type web struct {
	ties    [][]tie
	parts   int     // how many of the nodes are parts
	lists   []int   // which list each node is of
	places  []int   // which part or net of its list each node is
	colours []int   // of each node, among parts or nets
	classes [2]sets // of parts, of nets: the nodes of each colour
}

// sets is nodes by their colour.
type sets [][]int

// marksOf returns the marks of the pins of a type.
func marksOf(t api.PartType) []int {
	var marks []int
	var firsts [api.MaxTypePins + 1]int // of each group, from 1 on: 0 is none
	for i, p := range t.Pins {
		if p.Group == 0 {
			marks = append(marks, i)
			continue
		}
		if firsts[p.Group] == 0 {
			firsts[p.Group] = i + 1
		}
		marks = append(marks, firsts[p.Group]-1)
	}
	return marks
}

// marksOfAll returns the marks of the pins of all types.
func marksOfAll(t []api.PartType) [][]int {
	var marks [][]int
	for _, one := range t {
		marks = append(marks, marksOf(one))
	}
	return marks
}

// put puts lists together.
func put(lists ...wiring) *web {
	g := &web{}
	var firstPart, firstNet []int
	nodes := func(list, many int) int {
		first := len(g.lists)
		for i := range many {
			g.lists = append(g.lists, list)
			g.places = append(g.places, i)
		}
		return first
	}
	for i, w := range lists {
		firstPart = append(firstPart, nodes(i, len(w.kinds)))
	}
	g.parts = len(g.lists)
	for i, w := range lists {
		firstNet = append(firstNet, nodes(i, len(w.pins)))
	}
	g.ties = make([][]tie, len(g.lists))
	g.colours = make([]int, len(g.lists))
	for i, w := range lists {
		g.connect(w, firstPart[i], firstNet[i])
	}
	g.begin(lists)
	return g
}

func (g *web) connect(w wiring, firstPart, firstNet int) {
	marks := marksOfAll(w.types)
	for part, nets := range w.nets {
		node := firstPart + part
		for pin, net := range nets {
			mark := marks[w.kinds[part]][pin]
			other := none
			if net != none {
				other = firstNet + net
				g.ties[other] = append(g.ties[other], tie{mark, node})
			}
			g.ties[node] = append(g.ties[node], tie{mark, other})
		}
	}
}

// begin gives the first colours. Types stand by their names: so their numbers rank them.
func (g *web) begin(lists []wiring) {
	var parts, nets []int
	for node := range g.lists {
		if node < g.parts {
			parts = append(parts, node)
		} else {
			nets = append(nets, node)
		}
	}
	kind := func(node int) int { return lists[g.lists[node]].kinds[g.places[node]] }
	g.classes[0] = grouped(parts, func(a, b int) int { return cmp.Compare(kind(a), kind(b)) })
	g.classes[1] = grouped(nets, func(a, b int) int { return 0 })
	g.colour()
}

func (g *web) colour() {
	for _, classes := range g.classes {
		for colour, class := range classes {
			for _, node := range class {
				g.colours[node] = colour
			}
		}
	}
}

// refine makes rounds until there are no more colours than before.
//
// To look at all nodes in each round would take too long in long chains. A node needs a look only if its sign can have become another one than that of those with its colour. This depends on how colours are told apart, not on their numbers: of what was one colour, the most nodes count as if they had kept it, and all others as moved. Nodes that no moved one is tied to still have one sign if they had one.
func (g *web) refine() {
	look := slices.Repeat([]bool{true}, len(g.ties))
	for {
		var moved []int
		for half, classes := range g.classes {
			var next sets
			for _, class := range classes {
				parted := g.parted(class, look)
				next = append(next, parted...)
				moved = append(moved, butLargest(parted)...)
			}
			g.classes[half] = next
		}
		if len(moved) == 0 {
			return
		}
		g.colour()
		clear(look)
		for _, node := range moved {
			for _, t := range g.ties[node] {
				if t.other != none {
					look[t.other] = true
				}
			}
		}
	}
}

// butLargest returns the nodes of all classes but the first one of those with the most.
func butLargest(parted sets) []int {
	largest := 0
	for i, class := range parted {
		if len(class) > len(parted[largest]) {
			largest = i
		}
	}
	var moved []int
	for i, class := range parted {
		if i != largest {
			moved = append(moved, class...)
		}
	}
	return moved
}

// parted returns the nodes of one colour by their signs; those that need no look have one sign.
func (g *web) parted(class []int, look []bool) sets {
	if len(class) == 1 {
		return sets{class}
	}
	type bundle struct{ sign, nodes []int }
	var still []int
	var bundles []bundle
	for _, node := range class {
		if look[node] {
			bundles = append(bundles, bundle{g.sign(node), []int{node}})
		} else {
			still = append(still, node)
		}
	}
	if len(bundles) == 0 {
		return sets{class}
	}
	if len(still) > 0 {
		bundles = append(bundles, bundle{g.sign(still[0]), still})
	}
	var parted sets
	for _, same := range grouped(bundles, func(a, b bundle) int { return slices.Compare(a.sign, b.sign) }) {
		var nodes []int
		for _, b := range same {
			nodes = append(nodes, b.nodes...)
		}
		parted = append(parted, nodes)
	}
	return parted
}

// sign returns what tells a node from others of its colour: so that colour itself is not in it.
func (g *web) sign(node int) []int {
	sign := make([]int, len(g.ties[node]))
	for i, t := range g.ties[node] {
		colour := none
		if t.other != none {
			colour = g.colours[t.other]
		}
		if node < g.parts {
			sign[i] = t.mark*wide + colour
		} else {
			sign[i] = colour*wide + t.mark
		}
	}
	slices.Sort(sign)
	return sign
}

// Colours returns the colours of parts and of nets.
func Colours(t []api.PartType, x api.Netlist) ([]int, []int, api.Fault) {
	w, f := wire(t, x)
	if f != api.OK {
		return nil, nil, f
	}
	g := put(w)
	g.refine()
	return slices.Clone(g.colours[:g.parts]), slices.Clone(g.colours[g.parts:]), api.OK
}

// Alike says whether two lists have as many parts and nets of each colour.
func Alike(t []api.PartType, a, b api.Netlist) (bool, api.Fault) {
	wa, wb, f := wireBoth(t, a, b)
	if f != api.OK {
		return false, f
	}
	g := put(wa, wb)
	g.refine()
	for _, classes := range g.classes {
		for _, class := range classes {
			if 2*len(g.ofFirst(class)) != len(class) {
				return false, api.OK
			}
		}
	}
	return true, api.OK
}

// ofFirst returns the nodes that are of the first list.
func (g *web) ofFirst(class []int) []int {
	var nodes []int
	for _, node := range class {
		if g.lists[node] == 0 {
			nodes = append(nodes, node)
		}
	}
	return nodes
}

// Matched returns the pairs of parts, and of nets, that alone have their colour.
func Matched(t []api.PartType, a, b api.Netlist) ([]api.Pairing, []api.Pairing, api.Fault) {
	wa, wb, f := wireBoth(t, a, b)
	if f != api.OK {
		return nil, nil, f
	}
	g := put(wa, wb)
	g.refine()
	return pairs(g, g.classes[0], a.Parts, b.Parts, partName), pairs(g, g.classes[1], a.Nets, b.Nets, netName), api.OK
}

// pairs returns the names of what is alone with its like in the other list.
func pairs[T any](g *web, classes sets, a, b []T, name func(T) string) []api.Pairing {
	var l []api.Pairing
	for _, class := range classes {
		if len(class) != 2 || len(g.ofFirst(class)) != 1 {
			continue
		}
		i, k := g.places[min(class[0], class[1])], g.places[max(class[0], class[1])] // nodes of the first list stand first
		l = append(l, api.Pairing{A: name(a[i]), B: name(b[k])})
	}
	slices.SortFunc(l, func(a, b api.Pairing) int { return strings.Compare(a.A, b.A) })
	return l
}
