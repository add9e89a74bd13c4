package netlist

import (
	"testing"

	"etchhouse/api"
)

// someSheets are three sheets: b uses a two times and c one time.
func someSheets() []api.Sheet {
	return []api.Sheet{
		{
			Name:  "a",
			Ports: []string{"i", "o"},
			Parts: partsOf("r", []string{"R1", "R2"}),
			Nets:  []api.Net{{Name: "n", Pins: pins("R1.1 R2.1"), Ports: []string{"i"}}},
		},
		{
			Name:  "b",
			Ports: []string{"p1", "p2", "p3"},
			Parts: partsOf("r", []string{"R1", "R2", "R3", "R4"}),
			Uses:  []api.Use{{Name: "u1", Sheet: "a"}, {Name: "u2", Sheet: "a"}, {Name: "u3", Sheet: "c"}},
			Nets: []api.Net{
				{Name: "n1", Pins: pins("R1.1 R1.2 u1.i"), Ports: []string{"p1"}},
				{Name: "n2", Pins: pins("R2.1 R3.1 u1.o u2.i u3.z"), Ports: []string{"p2", "p3"}},
				{Name: "n3"},
			},
		},
		{Name: "c", Ports: []string{"z"}},
	}
}

// changed does something with the sheet b of someSheets.
func changed(do func(s *api.Sheet)) []api.Sheet {
	l := someSheets()
	do(&l[1])
	return l
}

// usesOf makes uses of one sheet.
func usesOf(sheet string, names []string) []api.Use {
	var l []api.Use
	for _, name := range names {
		l = append(l, api.Use{Name: name, Sheet: sheet})
	}
	return l
}

func emptySheets(names []string) []api.Sheet {
	var l []api.Sheet
	for _, name := range names {
		l = append(l, api.Sheet{Name: name})
	}
	return l
}

func emptyNets(names []string) []api.Net {
	var l []api.Net
	for _, name := range names {
		l = append(l, api.Net{Name: name})
	}
	return l
}

// sheetOfPins has a net with so many pins of parts.
func sheetOfPins(many int) api.Sheet {
	s := api.Sheet{Name: "s", Parts: partsOf("r", names("R", (many+1)/2))}
	var l []api.Pin
	for i := range many {
		l = append(l, api.Pin{Part: s.Parts[i/2].Name, Pin: string("12"[i%2])})
	}
	s.Nets = []api.Net{{Name: "n", Pins: l}}
	return s
}

// N2: each error alone, and what is at the bounds.
func TestCheckSheets(t *testing.T) {
	for _, c := range []struct {
		what string
		l    []api.Sheet
		want api.Fault
	}{
		{"nil", nil, api.OK},
		{"empty", []api.Sheet{}, api.OK},
		{"some", someSheets(), api.OK},
		{"a sheet with a name alone", emptySheets([]string{"x"}), api.OK},
		{"as many as can be", emptySheets(names("s", api.MaxSheets)), api.OK},
		{"too many", emptySheets(names("s", api.MaxSheets+1)), api.ErrLarge},
		{"no word", emptySheets([]string{"a/b"}), api.ErrName},
		{"a sheet twice", emptySheets([]string{"a", "a"}), api.ErrOrder},
		{"sheets not in order", emptySheets([]string{"b", "a"}), api.ErrOrder},

		{"as many ports as can be", []api.Sheet{{Name: "s", Ports: names("p", api.MaxPorts)}}, api.OK},
		{"too many ports", []api.Sheet{{Name: "s", Ports: names("p", api.MaxPorts+1)}}, api.ErrLarge},
		{"a port that is no word", []api.Sheet{{Name: "s", Ports: []string{"p/q"}}}, api.ErrName},
		{"a port twice", []api.Sheet{{Name: "s", Ports: []string{"p", "p"}}}, api.ErrOrder},
		{"ports not in order", []api.Sheet{{Name: "s", Ports: []string{"q", "p"}}}, api.ErrOrder},

		{"as many parts as can be", []api.Sheet{{Name: "s", Parts: partsOf("r", names("R", api.MaxParts))}}, api.OK},
		{"too many parts", []api.Sheet{{Name: "s", Parts: partsOf("r", names("R", api.MaxParts+1))}}, api.ErrLarge},
		{"a part that is no word", []api.Sheet{{Name: "s", Parts: partsOf("r", []string{"a/b"})}}, api.ErrName},
		{"a part of no type", []api.Sheet{{Name: "s", Parts: partsOf("R", []string{"R"})}}, api.ErrNone},
		{"a part twice", []api.Sheet{{Name: "s", Parts: partsOf("r", []string{"R", "R"})}}, api.ErrOrder},
		{"parts not in order", []api.Sheet{{Name: "s", Parts: partsOf("r", []string{"S", "R"})}}, api.ErrOrder},

		{"as many uses as can be", append(emptySheets([]string{"c"}), api.Sheet{Name: "s", Uses: usesOf("c", names("u", api.MaxUses))}), api.OK},
		{"too many uses", append(emptySheets([]string{"c"}), api.Sheet{Name: "s", Uses: usesOf("c", names("u", api.MaxUses+1))}), api.ErrLarge},
		{"a use that is no word", changed(func(s *api.Sheet) { s.Uses[2].Name = "u/3" }), api.ErrName},
		{"a use with the name of a part", changed(func(s *api.Sheet) { s.Uses[0].Name = "R4" }), api.ErrTwice},
		{"a use of no sheet", changed(func(s *api.Sheet) { s.Uses[2].Sheet = "d" }), api.ErrNone},
		{"a use of a sheet with no name", changed(func(s *api.Sheet) { s.Uses[2].Sheet = "" }), api.ErrNone},
		{"a use twice", changed(func(s *api.Sheet) { s.Uses[1].Name = "u1" }), api.ErrOrder},
		{"uses not in order", changed(func(s *api.Sheet) { s.Uses[1].Name = "u0" }), api.ErrOrder},

		{"as many nets as can be", []api.Sheet{{Name: "s", Nets: emptyNets(names("n", api.MaxNets))}}, api.OK},
		{"too many nets", []api.Sheet{{Name: "s", Nets: emptyNets(names("n", api.MaxNets+1))}}, api.ErrLarge},
		{"a net that is no word", changed(func(s *api.Sheet) { s.Nets[2].Name = "a/b" }), api.ErrName},
		{"a net twice", changed(func(s *api.Sheet) { s.Nets[2].Name = "n2" }), api.ErrOrder},
		{"nets not in order", changed(func(s *api.Sheet) { s.Nets[2].Name = "n0" }), api.ErrOrder},
		{"as many pins as can be", []api.Sheet{sheetOfPins(api.MaxNetPins)}, api.OK},
		{"too many pins", []api.Sheet{sheetOfPins(api.MaxNetPins + 1)}, api.ErrLarge},
		{"a pin of no part", changed(func(s *api.Sheet) { s.Nets[2].Pins = pins("R5.1") }), api.ErrNone},
		{"a pin that the part has not", changed(func(s *api.Sheet) { s.Nets[2].Pins = pins("R4.3") }), api.ErrNone},
		{"a port that the use has not", changed(func(s *api.Sheet) { s.Nets[2].Pins = pins("u2.p1") }), api.ErrNone},
		{"a pin of a part of a used sheet", changed(func(s *api.Sheet) { s.Nets[2].Pins = pins("u2.R1") }), api.ErrNone},
		{"a port of the used sheet itself", changed(func(s *api.Sheet) { s.Nets[2].Pins = pins("a.o") }), api.ErrNone},
		{"a pin twice in a net", changed(func(s *api.Sheet) { s.Nets[2].Pins = pins("R4.1 R4.1") }), api.ErrOrder},
		{"pins not in order by pin", changed(func(s *api.Sheet) { s.Nets[2].Pins = pins("R4.2 R4.1") }), api.ErrOrder},
		{"pins not in order by part", changed(func(s *api.Sheet) { s.Nets[2].Pins = pins("R4.1 R3.2") }), api.ErrOrder},
		{"pins in order by part, not by pin", changed(func(s *api.Sheet) { s.Nets[2].Pins = pins("R3.2 R4.1") }), api.OK},
		{"a pin in two nets", changed(func(s *api.Sheet) { s.Nets[2].Pins = pins("R1.2") }), api.ErrTwice},
		{"a port of a use in two nets", changed(func(s *api.Sheet) { s.Nets[2].Pins = pins("u1.o") }), api.ErrTwice},
		{"the same pin of two uses", changed(func(s *api.Sheet) { s.Nets[2].Pins = pins("u2.o") }), api.OK},
		{"all ports in one net", []api.Sheet{{Name: "s", Ports: names("p", api.MaxPorts), Nets: []api.Net{{Name: "n", Ports: names("p", api.MaxPorts)}}}}, api.OK},
		{"too many ports of a net", []api.Sheet{{Name: "s", Ports: names("p", api.MaxPorts), Nets: []api.Net{{Name: "n", Ports: names("p", api.MaxPorts+1)}}}}, api.ErrLarge},
		{"a port that the sheet has not", changed(func(s *api.Sheet) { s.Nets[2].Ports = []string{"i"} }), api.ErrNone},
		{"a port twice in a net", changed(func(s *api.Sheet) { s.Nets[1].Ports = []string{"p2", "p2"} }), api.ErrOrder},
		{"ports of a net not in order", changed(func(s *api.Sheet) { s.Nets[1].Ports = []string{"p3", "p2"} }), api.ErrOrder},
		{"a port in two nets", changed(func(s *api.Sheet) { s.Nets[2].Ports = []string{"p1"} }), api.ErrTwice},

		{"a sheet that uses itself", changed(func(s *api.Sheet) { s.Uses[2].Sheet = "b"; s.Nets[1].Pins = nil }), api.ErrLoop},
	} {
		wantFault(t, c.what, CheckSheets(someTypes(), c.l), c.want)
	}
}

// N2: loops over others; what is used by many is none.
func TestLoopsOfSheets(t *testing.T) {
	chain := func(many int, back bool) []api.Sheet {
		l := emptySheets(names("s", many))
		for i := range l[1:] {
			l[i].Uses = usesOf(l[i+1].Name, []string{"x", "y"})
		}
		if back {
			l[many-1].Uses = usesOf(l[many/2].Name, []string{"z"})
		}
		return l
	}
	wantFault(t, "a chain", CheckSheets(nil, chain(api.MaxSheets, false)), api.OK)
	wantFault(t, "back to the middle", CheckSheets(nil, chain(api.MaxSheets, true)), api.ErrLoop)
	wantFault(t, "two that use each other", CheckSheets(nil, chain(2, true)), api.ErrLoop)
	l := append(chain(5, true), api.Sheet{Name: "a"})
	wantFault(t, "the order of names before loops", CheckSheets(nil, l), api.ErrOrder)
	l = chain(3, false)
	l[0].Uses = append(l[0].Uses, api.Use{Name: "z", Sheet: "s00002"})
	wantFault(t, "one sheet over two ways", CheckSheets(nil, l), api.OK)
}

// N2: the first error in the order of the chapter.
func TestOrderOfErrorsOfSheets(t *testing.T) {
	b := func(do func(*api.Sheet)) func(*[]api.Sheet) {
		return func(l *[]api.Sheet) { do(&(*l)[1]) }
	}
	net := func(do func(*api.Net)) func(*[]api.Sheet) {
		return b(func(s *api.Sheet) { do(&s.Nets[1]) })
	}
	wantInOrder(t, someSheets, []breakage[[]api.Sheet]{
		{"too many sheets", func(l *[]api.Sheet) { *l = append(*l, emptySheets(names("s", api.MaxSheets))...) }, api.ErrLarge},
		{"no name", b(func(s *api.Sheet) { s.Name = "" }), api.ErrName},
		{"too many ports", b(func(s *api.Sheet) { s.Ports = append(s.Ports, names("q", api.MaxPorts)...) }), api.ErrLarge},
		{"a port without a name", b(func(s *api.Sheet) { s.Ports[1] = "" }), api.ErrName},
		{"a port not in order", b(func(s *api.Sheet) { s.Ports[1] = misplaced(s.Ports[1]) }), api.ErrOrder},
		{"a later port without a name", b(func(s *api.Sheet) { s.Ports[2] = "" }), api.ErrName},
		{"too many parts", b(func(s *api.Sheet) { s.Parts = append(s.Parts, partsOf("r", names("S", api.MaxParts))...) }), api.ErrLarge},
		{"a part without a name", b(func(s *api.Sheet) { s.Parts[1].Name = "" }), api.ErrName},
		{"a part without a type", b(func(s *api.Sheet) { s.Parts[1].Type = "" }), api.ErrNone},
		{"a part not in order", b(func(s *api.Sheet) { s.Parts[1].Name = misplaced(s.Parts[1].Name) }), api.ErrOrder},
		{"a later part without a name", b(func(s *api.Sheet) { s.Parts[2].Name = "" }), api.ErrName},
		{"too many uses", b(func(s *api.Sheet) { s.Uses = append(s.Uses, usesOf("c", names("v", api.MaxUses))...) }), api.ErrLarge},
		{"a use without a name", b(func(s *api.Sheet) { s.Uses[1].Name = "" }), api.ErrName},
		{"a use called as a part", b(func(s *api.Sheet) {
			if s.Uses[1].Name != "" {
				s.Uses[1].Name = "R1"
			}
		}), api.ErrTwice},
		{"a use without a sheet", b(func(s *api.Sheet) { s.Uses[1].Sheet = "" }), api.ErrNone},
		{"a use not in order", b(func(s *api.Sheet) {
			if s.Uses[1].Name == "u2" {
				s.Uses[1].Name = "#"
			}
		}), api.ErrOrder},
		{"a later use without a name", b(func(s *api.Sheet) { s.Uses[2].Name = "" }), api.ErrName},
		{"too many nets", b(func(s *api.Sheet) { s.Nets = append(s.Nets, emptyNets(names("o", api.MaxNets))...) }), api.ErrLarge},
		{"a net without a name", net(func(n *api.Net) { n.Name = "" }), api.ErrName},
		{"too many pins", net(func(n *api.Net) { n.Pins = append(n.Pins, make([]api.Pin, api.MaxNetPins)...) }), api.ErrLarge},
		{"a pin that is not there", net(func(n *api.Net) { n.Pins[1] = pin("R3.3") }), api.ErrNone},
		{"a pin not in order and in an earlier net", net(func(n *api.Net) {
			if n.Pins[1] != pin("R3.3") {
				n.Pins[1] = pin("R1.1")
			}
		}), api.ErrOrder},
		{"a pin in an earlier net", net(func(n *api.Net) { n.Pins[2] = pin("u1.i") }), api.ErrTwice},
		{"a later pin that is not there", net(func(n *api.Net) { n.Pins[3] = pin("u1.x") }), api.ErrNone},
		{"too many ports of a net", net(func(n *api.Net) { n.Ports = append(n.Ports, names("q", api.MaxPorts)...) }), api.ErrLarge},
		{"a port that is not there", net(func(n *api.Net) { n.Ports[0] = "p0" }), api.ErrNone},
		{"a port of an earlier net", net(func(n *api.Net) {
			if n.Ports[0] != "p0" {
				n.Ports[0] = "p1"
			}
		}), api.ErrTwice},
		{"a later port that is not there", net(func(n *api.Net) { n.Ports[1] = "p9" }), api.ErrNone},
		{"a net not in order", net(func(n *api.Net) { n.Name = misplaced(n.Name) }), api.ErrOrder},
		{"a later net without a name", b(func(s *api.Sheet) { s.Nets[2].Name = "" }), api.ErrName},
		{"a sheet not in order", b(func(s *api.Sheet) { s.Name = misplaced(s.Name) }), api.ErrOrder},
		{"a later sheet without a name", func(l *[]api.Sheet) { (*l)[2].Ports = append((*l)[2].Ports, "") }, api.ErrName},
		{"a loop", func(l *[]api.Sheet) { (*l)[0].Uses = usesOf((*l)[0].Name, []string{"l"}) }, api.ErrLoop},
	}, func(l []api.Sheet) api.Fault { return CheckSheets(someTypes(), l) })
}

// N2: a sheet can use one that stands behind it, and that has not been looked at yet.
func TestUsesOfLaterSheets(t *testing.T) {
	l := []api.Sheet{
		{Name: "a", Uses: usesOf("z", []string{"u"}), Nets: []api.Net{{Name: "n", Pins: pins("u.q u.r")}}},
		{Name: "z", Ports: []string{"p", "q", "r"}},
	}
	wantFault(t, "later", CheckSheets(nil, l), api.OK)
	l[1].Ports = []string{"r", "q"}
	wantFault(t, "later, with ports not in order", CheckSheets(nil, l), api.ErrOrder)
	l[1].Ports = []string{"p", "q"}
	wantFault(t, "later, without the port", CheckSheets(nil, l), api.ErrNone)
}
