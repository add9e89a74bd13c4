package netlist

import (
	"fmt"
	"math/rand/v2"
	"slices"
	"strings"
	"testing"

	"etchhouse/api"
)

// bunch is nets that are one, in the model: refs are ports of uses, ports those of the sheet.
type bunch struct {
	names []string
	pins  []api.Pin
	refs  []api.Pin
	ports []string
}

// expanded is the model of Flat: it writes sheets out one within another, and joins bunches that have a port of a use in common.
func expanded(l []api.Sheet, name, prefix string) ([]api.Part, []bunch) {
	s := l[slices.IndexFunc(l, func(s api.Sheet) bool { return s.Name == name })]
	var parts []api.Part
	for _, p := range s.Parts {
		parts = append(parts, api.Part{Name: prefix + p.Name, Type: p.Type})
	}
	var bunches []bunch
	for _, n := range s.Nets {
		b := bunch{names: []string{prefix + n.Name}, ports: n.Ports}
		for _, p := range n.Pins {
			if slices.ContainsFunc(s.Uses, func(u api.Use) bool { return u.Name == p.Part }) {
				b.refs = append(b.refs, p)
			} else {
				b.pins = append(b.pins, api.Pin{Part: prefix + p.Part, Pin: p.Pin})
			}
		}
		bunches = append(bunches, b)
	}
	for _, u := range s.Uses {
		below, inside := expanded(l, u.Sheet, prefix+u.Name+"/")
		parts = append(parts, below...)
		for _, b := range inside {
			for _, port := range b.ports {
				b.refs = append(b.refs, api.Pin{Part: u.Name, Pin: port})
			}
			b.ports = nil
			bunches = append(bunches, b)
		}
	}
	return parts, merged(bunches)
}

func merged(bunches []bunch) []bunch {
	for i := 0; i < len(bunches); i++ {
		for k := i + 1; k < len(bunches); k++ {
			a, b := bunches[i], bunches[k]
			if !slices.ContainsFunc(a.refs, func(p api.Pin) bool { return slices.Contains(b.refs, p) }) {
				continue
			}
			bunches[i] = bunch{slices.Concat(a.names, b.names), slices.Concat(a.pins, b.pins), slices.Concat(a.refs, b.refs), slices.Concat(a.ports, b.ports)}
			return merged(slices.Delete(bunches, k, k+1))
		}
	}
	for i := range bunches {
		bunches[i].refs = nil
	}
	return bunches
}

func modelFlat(l []api.Sheet, top string) api.Netlist {
	parts, bunches := expanded(l, top, "")
	x := api.Netlist{Parts: parts}
	slices.SortFunc(x.Parts, func(a, b api.Part) int { return strings.Compare(a.Name, b.Name) })
	for _, b := range bunches {
		if len(b.pins) == 0 {
			continue
		}
		slices.SortFunc(b.names, func(a, b string) int {
			if c := strings.Count(a, "/") - strings.Count(b, "/"); c != 0 {
				return c
			}
			return strings.Compare(a, b)
		})
		slices.SortFunc(b.pins, comparePins)
		x.Nets = append(x.Nets, api.Net{Name: b.names[0], Pins: b.pins})
	}
	slices.SortFunc(x.Nets, func(a, b api.Net) int { return strings.Compare(a.Name, b.Name) })
	return x
}

// randomSheets makes sheets that use only sheets behind them, or only before them.
func randomSheets(rnd *rand.Rand) []api.Sheet {
	words := []string{"a", "a#", "a+", "a-", "aa", "b", "B", "b0", "c_", "d"}
	some := func(most int) []string {
		l := slices.Clone(words)
		rnd.Shuffle(len(l), func(i, k int) { l[i], l[k] = l[k], l[i] })
		l = l[:rnd.IntN(most+1)]
		slices.Sort(l)
		return l
	}
	l := emptySheets(names("s", 1+rnd.IntN(5)))
	for i := range l {
		l[i].Ports = some(4)
	}
	behind := rnd.IntN(2) == 0
	for i := range l {
		others := l[i+1:]
		if !behind {
			others = l[:i]
		}
		fillSheet(rnd, &l[i], others, some)
	}
	return l
}

func fillSheet(rnd *rand.Rand, s *api.Sheet, others []api.Sheet, some func(int) []string) {
	var free []api.Pin
	for _, name := range some(6) {
		if len(others) > 0 && rnd.IntN(2) == 0 {
			other := others[rnd.IntN(len(others))]
			s.Uses = append(s.Uses, api.Use{Name: name, Sheet: other.Name})
			for _, port := range other.Ports {
				free = append(free, api.Pin{Part: name, Pin: port})
			}
			continue
		}
		s.Parts = append(s.Parts, api.Part{Name: name, Type: "r"})
		free = append(free, api.Pin{Part: name, Pin: "1"}, api.Pin{Part: name, Pin: "2"})
	}
	rnd.Shuffle(len(free), func(i, k int) { free[i], free[k] = free[k], free[i] })
	ports := slices.Clone(s.Ports)
	rnd.Shuffle(len(ports), func(i, k int) { ports[i], ports[k] = ports[k], ports[i] })
	for _, name := range some(5) {
		n, m := min(rnd.IntN(4), len(free)), min(rnd.IntN(3), len(ports))
		net := api.Net{Name: name, Pins: slices.Clone(free[:n]), Ports: slices.Clone(ports[:m])}
		slices.SortFunc(net.Pins, comparePins)
		slices.Sort(net.Ports)
		free, ports = free[n:], ports[m:]
		s.Nets = append(s.Nets, net)
	}
}

// N3: what is flat is what the model writes out, and is a list.
func TestFlatAndModel(t *testing.T) {
	rnd := rand.New(rand.NewPCG(2, 3))
	seen := map[string]int{}
	for range 3000 {
		l := randomSheets(rnd)
		for _, s := range l {
			x, f := Flat(someTypes(), l, s.Name)
			wantFault(t, fmt.Sprintf("%+v", l), f, api.OK)
			want(t, fmt.Sprintf("%s of %+v", s.Name, l), x, modelFlat(l, s.Name))
			wantFault(t, "CheckList", CheckList(someTypes(), x), api.OK)
			for _, n := range x.Nets {
				seen[fmt.Sprint("words in names: ", strings.Count(n.Name, "/"))]++
				seen[fmt.Sprint("pins: ", len(n.Pins) > 3)]++
			}
		}
		if t.Failed() {
			return
		}
	}
	for _, what := range []string{"words in names: 0", "words in names: 1", "words in names: 2", "pins: true"} {
		if seen[what] < 100 {
			t.Errorf("only %d lists have %s", seen[what], what)
		}
	}
}

// example is that at the end of chapter 2.
func example() []api.Sheet {
	return []api.Sheet{
		{Name: "amp", Ports: []string{"in"}, Parts: partsOf("r", []string{"r"}), Nets: []api.Net{{Name: "n", Pins: pins("r.1"), Ports: []string{"in"}}}},
		{Name: "top", Uses: usesOf("amp", []string{"x", "y"}), Nets: []api.Net{{Name: "sig", Pins: pins("x.in y.in")}}},
	}
}

// The example at the end of the chapter.
func TestExample(t *testing.T) {
	types := someTypes()
	x, f := Flat(types, example(), "top")
	wantFault(t, "Flat", f, api.OK)
	want(t, "Flat", x, list("x/r:r y/r:r | sig x/r.1 y/r.1"))
	parts, nets, f := Colours(types, x)
	wantFault(t, "Colours", f, api.OK)
	want(t, "parts", parts, []int{0, 0})
	want(t, "nets", nets, []int{0})
	pairsOfParts, _, f := Matched(types, x, x)
	wantFault(t, "Matched", f, api.OK)
	want(t, "Matched", pairsOfParts, []api.Pairing{})
	x, f = Flat(types, example(), "amp")
	wantFault(t, "Flat of amp", f, api.OK)
	want(t, "Flat of amp", x, list("r:r | n r.1"))
}

// N3: how joined nets are called, and which ones are joined.
func TestJoinedNets(t *testing.T) {
	leaf := api.Sheet{Name: "l", Ports: []string{"p", "q"}, Parts: partsOf("r", []string{"R"})}
	inside := func(nets ...api.Net) api.Sheet { s := leaf; s.Nets = nets; return s }
	onPort := func(name, pinsOf, ports string) api.Net {
		return api.Net{Name: name, Pins: pins(pinsOf), Ports: strings.Fields(ports)}
	}
	top := func(uses []string, nets ...api.Net) api.Sheet {
		return api.Sheet{Name: "t", Uses: usesOf("l", uses), Parts: partsOf("r", []string{"R"}), Nets: nets}
	}
	for _, c := range []struct {
		what string
		leaf api.Sheet
		top  api.Sheet
		want string
	}{
		{"a port without a net in the use", inside(), top([]string{"u"}, onPort("n", "R.1 u.p", "")), "R:r u/R:r | n R.1"},
		{"a port without a net outside", inside(onPort("m", "R.1", "p")), top([]string{"u"}, onPort("n", "R.1 u.q", "")), "R:r u/R:r | n R.1 | u/m u/R.1"},
		{"fewer words first", inside(onPort("a", "R.1", "p")), top([]string{"a"}, onPort("z", "R.1 a.p", "")), "R:r a/R:r | z R.1 a/R.1"},
		{"two nets of the sheet joined by a used one", inside(onPort("m", "", "p q")), top([]string{"u"}, onPort("n", "R.1 u.p", ""), onPort("o", "R.2 u.q", "")), "R:r u/R:r | n R.1 R.2"},
		{"a name without pins of its own", inside(onPort("m", "R.2", "p")), top([]string{"u"}, onPort("n", "u.p", "")), "R:r u/R:r | n u/R.2"},
		{"no pins at all", inside(onPort("m", "", "p")), top([]string{"u"}, onPort("n", "u.p", "")), "R:r u/R:r"},
		{"two uses joined within the sheet", inside(onPort("m", "R.1", "p")), top([]string{"u", "v"}, onPort("n", "u.p v.p", "")), "R:r u/R:r v/R:r | n u/R.1 v/R.1"},
		{"two uses not joined", inside(onPort("m", "R.1", "p")), top([]string{"u", "v"}), "R:r u/R:r v/R:r | u/m u/R.1 | v/m v/R.1"},
		{"pins by part, then by pin", inside(onPort("m", "R.1 R.2", "p")), top([]string{"A"}, onPort("n", "A.p R.1 R.2", "")), "A/R:r R:r | n A/R.1 A/R.2 R.1 R.2"},
	} {
		l := []api.Sheet{c.leaf, c.top}
		x, f := Flat(someTypes(), l, "t")
		wantFault(t, c.what, f, api.OK)
		want(t, c.what, x, list(c.want))
	}
}

// N3: the lesser path, byte by byte, of those with as many words.
func TestLesserPath(t *testing.T) {
	for _, c := range []struct{ nets, want string }{
		{"a a+", "a"}, {"a+ aa", "a+"}, {"B a", "B"}, {"- 0", "-"}, {"ab b", "ab"}, {"10 9", "10"},
	} {
		two := strings.Fields(c.nets)
		l := []api.Sheet{
			{Name: "j", Ports: []string{"p", "q"}, Nets: []api.Net{{Name: "#", Ports: []string{"p", "q"}}}},
			{Name: "m", Uses: usesOf("j", []string{"u"}), Parts: partsOf("r", []string{"R"}), Nets: []api.Net{
				{Name: two[0], Pins: pins("R.1 u.q")},
				{Name: two[1], Pins: pins("R.2 u.p")},
			}},
			{Name: "t", Uses: usesOf("m", []string{"x", "y"})},
		}
		x, f := Flat(someTypes(), l, "t")
		wantFault(t, c.nets, f, api.OK)
		want(t, c.nets, x, list("x/R:r y/R:r | x/"+c.want+" x/R.1 x/R.2 | y/"+c.want+" y/R.1 y/R.2"))
	}
}

// N3: errors, and what is at the bounds.
func TestErrorsOfFlat(t *testing.T) {
	types := someTypes()
	flat := func(what string, l []api.Sheet, top string, expected api.Fault) api.Netlist {
		t.Helper()
		x, f := Flat(types, l, top)
		wantFault(t, what, f, expected)
		if f != api.OK {
			wantZero(t, what, x)
		}
		return x
	}
	flat("no sheets", nil, "top", api.ErrNone)
	flat("no sheet top", someSheets(), "d", api.ErrNone)
	flat("no name", someSheets(), "", api.ErrNone)
	bad := someSheets()
	bad[2].Uses = usesOf("b", []string{"u"})
	flat("CheckSheets first", bad, "d", api.ErrLoop)
	flat("CheckSheets of sheets that are not used", bad, "a", api.ErrLoop)
	flat("an empty sheet", emptySheets([]string{"e"}), "e", api.OK)

	tooMany := []api.Sheet{{Name: "p", Parts: partsOf("r", names("R", api.MaxParts))}, {Name: "q", Uses: usesOf("p", []string{"u", "v"})}}
	flat("ErrNone before ErrLarge", tooMany, "d", api.ErrNone)
	flat("as many parts as can be", tooMany, "p", api.OK)
	flat("too many parts", tooMany, "q", api.ErrLarge)
	half := []api.Sheet{{Name: "p", Parts: partsOf("r", names("R", api.MaxParts/2))}, {Name: "q", Uses: usesOf("p", []string{"u", "v"})}}
	if x := flat("as many parts as can be in two uses", half, "q", api.OK); len(x.Parts) != api.MaxParts {
		t.Errorf("%d parts", len(x.Parts))
	}
	half[1].Parts = partsOf("r", []string{"R"})
	flat("one part more", half, "q", api.ErrLarge)
}

// sized makes sheets of which the last one stands for so many in all: 20 each but for the last use.
func sized(many int) []api.Sheet {
	l := emptySheets([]string{"a", "b", "c", "d"})
	l[1].Uses = usesOf("a", names("u", 19))
	last := (many - 1) % 20
	l[3].Uses = usesOf("b", names("v", (many-1)/20))
	if last > 0 {
		l[2].Uses = usesOf("a", names("u", last-1))
		l[3].Uses = append(l[3].Uses, api.Use{Name: "w", Sheet: "c"})
	}
	return l
}

// N3: sheets in all.
func TestInstances(t *testing.T) {
	for _, c := range []struct {
		many int
		want api.Fault
	}{{1, api.OK}, {41, api.OK}, {api.MaxInstances - 1, api.OK}, {api.MaxInstances, api.OK}, {api.MaxInstances + 1, api.ErrLarge}} {
		x, f := Flat(nil, sized(c.many), "d")
		wantFault(t, fmt.Sprint(c.many), f, c.want)
		wantZero(t, "Flat", x)
	}
	chain := emptySheets(names("s", api.MaxSheets))
	for i := range chain[1:] {
		chain[i].Uses = usesOf(chain[i+1].Name, names("u", api.MaxUses))
	}
	for i, expected := range map[int]api.Fault{0: api.ErrLarge, 50: api.ErrLarge, 97: api.ErrLarge, 98: api.OK, 99: api.OK} {
		_, f := Flat(nil, chain, chain[i].Name)
		wantFault(t, fmt.Sprint("sheet ", i), f, expected)
	}
	_, f := Flat(nil, chain, "none")
	wantFault(t, "ErrNone before very many sheets", f, api.ErrNone)
}

// deep makes sheets one within another, of which the lowest is the one given; all words have MaxName bytes.
func deep(levels int, lowest api.Sheet) []api.Sheet {
	word := strings.Repeat("w", api.MaxName)
	l := emptySheets(names("s", levels+1))
	for i := range levels {
		l[i].Uses = usesOf(l[i+1].Name, []string{word})
		l[i].Ports = lowest.Ports
	}
	lowest.Name = l[levels].Name
	l[levels] = lowest
	return l
}

// N3: paths of parts and of nets at the bound.
func TestLongPaths(t *testing.T) {
	const room = api.MaxPath - 4*(api.MaxName+1)
	long := strings.Repeat("x", room)
	part := func(name string) api.Sheet { return api.Sheet{Parts: partsOf("r", []string{name})} }
	net := func(name string, pinsOf string) api.Sheet {
		s := part("R")
		s.Ports = []string{"p"}
		s.Nets = []api.Net{{Name: name, Pins: pins(pinsOf), Ports: []string{"p"}}}
		return s
	}
	joined := deep(4, net(long+"x", "R.1"))
	joined[3].Nets = []api.Net{{Name: "n", Pins: []api.Pin{{Part: joined[3].Uses[0].Name, Pin: "p"}}}}
	word := strings.Repeat("w", api.MaxName)
	longer := deep(4, net("n", "R.1")) // fewer words, and yet too long, if one more word is before it
	longer[4].Uses = usesOf("z", []string{"u"})
	longer[4].Nets[0].Name = word
	longer[4].Nets[0].Pins = pins("R.1 u.p")
	longer = append(longer, api.Sheet{Name: "z", Ports: []string{"p"}, Nets: []api.Net{{Name: "n", Ports: []string{"p"}}}})
	for _, c := range []struct {
		what string
		l    []api.Sheet
		want api.Fault
	}{
		{"a part at the bound", deep(4, part(long)), api.OK},
		{"a part that is too long", deep(4, part(long+"x")), api.ErrLarge},
		{"a net at the bound", deep(4, net(long, "R.1")), api.OK},
		{"a net that is too long", deep(4, net(long+"x", "R.1")), api.ErrLarge},
		{"a net without pins that is too long", deep(4, net(long+"x", "")), api.OK},
		{"a net that is too long and not called so", joined, api.OK},
		{"a net of fewer words that is too long", longer, api.ErrLarge},
		{"sheets without anything", deep(90, api.Sheet{}), api.OK},
	} {
		_, f := Flat(someTypes(), c.l, "s00000")
		wantFault(t, c.what, f, c.want)
	}
}

// singles is parts and nets: each pin of the parts is a net of its own.
func singles(name string, parts int) api.Sheet {
	s := api.Sheet{Name: name, Parts: partsOf("r", names("R", parts))}
	for i, n := range names("n", 2*parts) {
		s.Nets = append(s.Nets, api.Net{Name: n, Pins: []api.Pin{{Part: s.Parts[i/2].Name, Pin: string("12"[i%2])}}})
	}
	return s
}

// N3: nets, and pins of a net, at the bound.
func TestManyNets(t *testing.T) {
	l := []api.Sheet{singles("s", api.MaxNets/4), {Name: "t", Uses: usesOf("s", []string{"u", "v"})}}
	x, f := Flat(someTypes(), l, "t")
	wantFault(t, "as many nets as can be", f, api.OK)
	want(t, "nets", len(x.Nets), api.MaxNets)
	l[1].Nets = emptyNets([]string{"e"})
	_, f = Flat(someTypes(), l, "t")
	wantFault(t, "one without pins more", f, api.OK)
	l[1].Parts = partsOf("r", []string{"R"})
	l[1].Nets[0].Pins = pins("R.1")
	_, f = Flat(someTypes(), l, "t")
	wantFault(t, "too many nets", f, api.ErrLarge)

	l = []api.Sheet{sheetOfPins(api.MaxNetPins / 2), {Name: "t", Uses: usesOf("s", []string{"u", "v"}), Parts: partsOf("r", []string{"R"})}}
	l[0].Ports, l[0].Nets[0].Ports = []string{"p"}, []string{"p"}
	l[1].Nets = []api.Net{{Name: "n", Pins: pins("u.p v.p")}}
	x, f = Flat(someTypes(), l, "t")
	wantFault(t, "as many pins as can be", f, api.OK)
	want(t, "pins", len(x.Nets[0].Pins), api.MaxNetPins)
	l[1].Nets[0].Pins = pins("R.1 u.p v.p")
	_, f = Flat(someTypes(), l, "t")
	wantFault(t, "too many pins", f, api.ErrLarge)
}
