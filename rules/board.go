package rules

import (
	"etchhouse/api"
	"etchhouse/copper"
	"etchhouse/netlist"
	"etchhouse/shape"
)

// board is an art without faults.
type board struct {
	art     api.Art
	squares []api.Rect   // of the bores
	coppers [][]api.Rect // what the bores leave of each
	pieces  []piece      // by number
	groups  []api.Group
}

// piece is copper that hangs together on a layer.
type piece struct {
	layer  int
	region []api.Rect
	around api.Rect
	group  int
}

// boardOf validates a board, and finds its pieces.
func boardOf(a api.Art) (*board, api.Fault) {
	groups, f := copper.Groups(a)
	if f != api.OK {
		return nil, f
	}
	coppers, f := copper.Drilled(a)
	if f != api.OK {
		return nil, f
	}
	b := &board{art: a, coppers: coppers, groups: groups}
	for _, one := range a.Bores {
		square, f := copper.Square(one)
		if f != api.OK {
			return nil, f
		}
		b.squares = append(b.squares, square)
	}
	if f := b.cut(); f != api.OK {
		return nil, f
	}
	return b, api.OK
}

// cut finds the pieces, in the order of their numbers.
func (b *board) cut() api.Fault {
	groupOf := map[int]int{}
	for i, g := range b.groups {
		for _, k := range g.Pieces {
			groupOf[k] = i
		}
	}
	for layer, r := range b.coppers {
		regions, f := shape.Pieces(r)
		if f != api.OK {
			return f
		}
		for _, region := range regions {
			around, _, f := shape.Bounds(region)
			if f != api.OK {
				return f
			}
			b.pieces = append(b.pieces, piece{layer, region, around, groupOf[len(b.pieces)]})
		}
	}
	return api.OK
}

func goesThrough(b api.Bore, layer int) bool {
	return b.From <= layer && layer <= b.To
}

// inspection holds a board against rules.
type inspection struct {
	ruling
	*board
	nets []string // of the groups, where they are asked for
}

// inspect validates rules and a board.
func inspect(r api.RuleSet, a api.Art) (inspection, api.Fault) {
	rules, f := rulingOf(r)
	if f != api.OK {
		return inspection{}, f
	}
	b, f := boardOf(a)
	if f != api.OK {
		return inspection{}, f
	}
	return inspection{ruling: rules, board: b}, api.OK
}

// inspectNets validates rules, a board, and the nets of its groups.
func inspectNets(r api.RuleSet, a api.Art, nets []string) (inspection, api.Fault) {
	i, f := inspect(r, a)
	if f != api.OK {
		return inspection{}, f
	}
	if len(nets) != len(i.groups) {
		return inspection{}, api.ErrForm
	}
	for _, net := range nets {
		if !isNet(net) {
			return inspection{}, api.ErrName
		}
	}
	i.nets = nets
	return i, api.OK
}

func (i inspection) netOf(p piece) string {
	return i.nets[p.group]
}

// NetsOf returns the net, or the empty name, of each group of a board.
func NetsOf(t []api.PartType, x api.Netlist, a api.Art) ([]string, api.Fault) {
	loose, f := netlist.Loose(t, x)
	if f != api.OK {
		return nil, f
	}
	groups, f := copper.Groups(a)
	if f != api.OK {
		return nil, f
	}
	netOf := map[api.Pin]string{} // of all pins in the list; loose ones have the empty name
	for _, p := range loose {
		netOf[p] = ""
	}
	for _, n := range x.Nets {
		for _, p := range n.Pins {
			netOf[p] = n.Name
		}
	}
	var out []string
	for _, g := range groups {
		out = append(out, commonNet(g.Pins, netOf))
	}
	return out, api.OK
}

// commonNet is the net in which all of some pins are that are in the list; the empty name, if there is none.
func commonNet(pins []api.Pin, netOf map[api.Pin]string) string {
	found := map[string]bool{}
	last := ""
	for _, p := range pins {
		if net, listed := netOf[p]; listed {
			found[net] = true
			last = net
		}
	}
	if len(found) != 1 {
		return ""
	}
	return last
}
