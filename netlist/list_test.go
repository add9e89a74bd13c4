package netlist

import (
	"fmt"
	"math/rand/v2"
	"slices"
	"strings"
	"testing"

	"etchhouse/api"
)

// someList has pins of all kinds, two loose ones among them, and two islands.
func someList() api.Netlist {
	return list("C:c D/x:gate E:gate F:nc R:r S:r | g D/x.v E.v R.2 | h F.h S.1 | n/1 D/x.a D/x.y R.1 | o E.a E.b E.y")
}

// listOfPins has one net with so many pins.
func listOfPins(many int) api.Netlist {
	s := sheetOfPins(many)
	return api.Netlist{Parts: s.Parts, Nets: s.Nets}
}

// listOfNets has so many nets, of one pin each.
func listOfNets(many int) api.Netlist {
	s := singles("s", (many+1)/2)
	return api.Netlist{Parts: s.Parts, Nets: s.Nets[:many]}
}

// N4: each error of CheckList alone, and what is at the bounds.
func TestCheckList(t *testing.T) {
	for _, c := range []struct {
		what string
		x    api.Netlist
		want api.Fault
	}{
		{"empty", api.Netlist{}, api.OK},
		{"empty lists", api.Netlist{Parts: []api.Part{}, Nets: []api.Net{}}, api.OK},
		{"some", someList(), api.OK},
		{"as many parts as can be", api.Netlist{Parts: partsOf("r", names("R", api.MaxParts))}, api.OK},
		{"too many parts", api.Netlist{Parts: partsOf("r", names("R", api.MaxParts+1))}, api.ErrLarge},
		{"a part that is no path", list("a//b:r"), api.ErrName},
		{"a part of no type", list("a:x"), api.ErrNone},
		{"a part twice", list("a:r a:r"), api.ErrOrder},
		{"parts not in order", list("b:r a:r"), api.ErrOrder},
		{"parts byte by byte", list("a:r a+:r a/b:r a0:r"), api.OK},
		{"parts word by word", list("a:r a/b:r a+:r"), api.ErrOrder},
		{"as many nets as can be", listOfNets(api.MaxNets), api.OK},
		{"too many nets", listOfNets(api.MaxNets + 1), api.ErrLarge},
		{"a net that is no path", list("a:r | n/ a.1"), api.ErrName},
		{"a net without pins", list("a:r | n"), api.ErrNone},
		{"as many pins as can be", listOfPins(api.MaxNetPins), api.OK},
		{"too many pins", listOfPins(api.MaxNetPins + 1), api.ErrLarge},
		{"a pin of no part", list("a:r | n b.1"), api.ErrNone},
		{"a pin that the part has not", list("a:r | n a.3"), api.ErrNone},
		{"a pin twice in a net", list("a:r | n a.1 a.1"), api.ErrOrder},
		{"pins not in order", list("a:r | n a.2 a.1"), api.ErrOrder},
		{"pins not in order by part", list("a:r b:r | n b.1 a.2"), api.ErrOrder},
		{"a pin in two nets", list("a:r | n a.1 | o a.1 a.2"), api.ErrTwice},
		{"ports", api.Netlist{Parts: partsOf("r", []string{"a"}), Nets: []api.Net{{Name: "n", Pins: pins("a.1"), Ports: []string{"p"}}}}, api.ErrForm},
		{"an empty list of ports", api.Netlist{Parts: partsOf("r", []string{"a"}), Nets: []api.Net{{Name: "n", Pins: pins("a.1"), Ports: []string{}}}}, api.OK},
		{"a net twice", list("a:r | n a.1 | n a.2"), api.ErrOrder},
		{"nets not in order", list("a:r | n a.1 | m a.2"), api.ErrOrder},
	} {
		wantFault(t, c.what, CheckList(someTypes(), c.x), c.want)
	}
	wantFault(t, "no types", CheckList(nil, list("a:r")), api.ErrNone)
}

// N4: the first error in the order of the chapter.
func TestOrderOfErrorsOfLists(t *testing.T) {
	net := func(do func(*api.Net)) func(*api.Netlist) {
		return func(x *api.Netlist) { do(&x.Nets[1]) }
	}
	fresh := func() api.Netlist { return list("a:r b:r c:r d:r e:r | k a.1 b.1 | n a.2 b.2 c.1 c.2 | o d.1") }
	wantInOrder(t, fresh, []breakage[api.Netlist]{
		{"too many parts", func(x *api.Netlist) { x.Parts = append(x.Parts, partsOf("r", names("s", api.MaxParts))...) }, api.ErrLarge},
		{"a part without a name", func(x *api.Netlist) { x.Parts[1].Name = "" }, api.ErrName},
		{"a part without a type", func(x *api.Netlist) { x.Parts[1].Type = "" }, api.ErrNone},
		{"a part not in order", func(x *api.Netlist) { x.Parts[1].Name = misplaced(x.Parts[1].Name) }, api.ErrOrder},
		{"a later part without a name", func(x *api.Netlist) { x.Parts[4].Name = "" }, api.ErrName},
		{"too many nets", func(x *api.Netlist) { x.Nets = append(x.Nets, emptyNets(names("p", api.MaxNets))...) }, api.ErrLarge},
		{"a net without a name", net(func(n *api.Net) { n.Name = "" }), api.ErrName},
		{"a net without pins", net(func(n *api.Net) { n.Pins = nil }), api.ErrNone},
		{"too many pins", net(func(n *api.Net) {
			if len(n.Pins) > 0 {
				n.Pins = append(n.Pins, make([]api.Pin, api.MaxNetPins)...)
			}
		}), api.ErrLarge},
		{"a pin that is not there", net(func(n *api.Net) { setPin(n, 1, "b.3") }), api.ErrNone},
		{"a pin not in order and in an earlier net", net(func(n *api.Net) {
			if len(n.Pins) > 1 && n.Pins[1] != pin("b.3") {
				setPin(n, 1, "a.1")
			}
		}), api.ErrOrder},
		{"a later pin that is not there", net(func(n *api.Net) { setPin(n, 3, "c.3") }), api.ErrNone},
		{"ports", net(func(n *api.Net) { n.Ports = []string{""} }), api.ErrForm},
		{"a net not in order", net(func(n *api.Net) { n.Name = misplaced(n.Name) }), api.ErrOrder},
		{"a later net without a name", func(x *api.Netlist) { x.Nets[2].Name = "" }, api.ErrName},
	}, func(x api.Netlist) api.Fault { return CheckList(someTypes(), x) })

	wantFault(t, "a pin in an earlier net before one that is not there", CheckList(someTypes(), list("a:r b:r | k a.1 | n a.1 b.3")), api.ErrTwice)
	wantFault(t, "a pin in an earlier net before ports", CheckList(someTypes(), api.Netlist{
		Parts: partsOf("r", []string{"a"}),
		Nets:  []api.Net{{Name: "k", Pins: pins("a.1")}, {Name: "n", Pins: pins("a.1"), Ports: []string{"p"}}},
	}), api.ErrTwice)
}

func setPin(n *api.Net, i int, text string) {
	if i < len(n.Pins) {
		n.Pins[i] = pin(text)
	}
}

// N4: all functions with lists return the error of CheckList first, for each list in order.
func TestListsFirst(t *testing.T) {
	broken := list("b:r a:r") // ErrOrder
	other := list("a:x")      // ErrNone
	for name, f := range faultsOfLists(someTypes(), broken, other) {
		wantFault(t, name, f, api.ErrOrder)
	}
	for _, name := range []string{"Changes", "Alike", "Matched", "CheckMatch"} {
		wantFault(t, name, faultsOfLists(someTypes(), someList(), other)[name], api.ErrNone)
	}
}

// N4: the net of a pin.
func TestNetOf(t *testing.T) {
	for _, c := range []struct {
		pin, name string
		is        bool
		want      api.Fault
	}{
		{"D/x.y", "n/1", true, api.OK},
		{"R.2", "g", true, api.OK},
		{"E.y", "o", true, api.OK},
		{"S.2", "", false, api.OK},
		{"C.k", "", false, api.OK},
		{"C.j", "", false, api.ErrNone},
		{"D.y", "", false, api.ErrNone},
		{".", "", false, api.ErrNone},
	} {
		name, is, f := NetOf(someTypes(), someList(), pin(c.pin))
		wantFault(t, c.pin, f, c.want)
		if name != c.name || is != c.is {
			t.Errorf("%s: %q, %v", c.pin, name, is)
		}
	}
}

// N4: pins in no net, by part, then by pin.
func TestLoose(t *testing.T) {
	l, f := Loose(someTypes(), someList())
	wantFault(t, "Loose", f, api.OK)
	want(t, "Loose", l, pins("C.k D/x.b D/x.w E.w F.f F.g S.2"))
	l, f = Loose(someTypes(), list("a:r | n a.1 a.2"))
	wantFault(t, "none", f, api.OK)
	want(t, "none", l, []api.Pin{})
	l, f = Loose(someTypes(), list("b:x"))
	wantFault(t, "a broken list", f, api.ErrNone)
	wantZero(t, "a broken list", l)
}

// N4: each pin is in one net or loose.
func TestPinsOfRandomLists(t *testing.T) {
	rnd := rand.New(rand.NewPCG(4, 4))
	for range 300 {
		x := randomList(rnd, 8, 8)
		var loose []api.Pin
		for _, part := range x.Parts {
			kind := slices.IndexFunc(someTypes(), func(k api.PartType) bool { return k.Name == part.Type })
			for _, one := range someTypes()[kind].Pins {
				p := api.Pin{Part: part.Name, Pin: one.Name}
				name, is, f := NetOf(someTypes(), x, p)
				wantFault(t, "NetOf", f, api.OK)
				at := slices.IndexFunc(x.Nets, func(n api.Net) bool { return slices.Contains(n.Pins, p) })
				if is != (at >= 0) || is && x.Nets[at].Name != name {
					t.Fatalf("%+v of %+v: %q, %v", p, x, name, is)
				}
				if !is {
					loose = append(loose, p)
				}
			}
		}
		l, f := Loose(someTypes(), x)
		wantFault(t, "Loose", f, api.OK)
		want(t, "Loose", l, loose)
	}
}

// N4: two nets that are one.
func TestJoined(t *testing.T) {
	for _, c := range []struct {
		x, a, b string
		want    string
		fault   api.Fault
	}{
		{"a:r b:r | m a.1 b.1 | n a.2 | o b.2", "n", "m", "a:r b:r | m a.1 a.2 b.1 | o b.2", api.OK},
		{"a:r b:r | m a.1 b.1 | n a.2 | o b.2", "m", "o", "a:r b:r | m a.1 b.1 b.2 | n a.2", api.OK},
		{"a:r b:r | m a.1 b.1 | n a.2 | o b.2", "o", "n", "a:r b:r | m a.1 b.1 | n a.2 b.2", api.OK},
		{"a:r | a/x a.1 | b a.2", "b", "a/x", "a:r | a/x a.1 a.2", api.OK}, // the lesser name, though it has more words
		{"a:r | m a.1", "m", "x", "", api.ErrNone},
		{"a:r | m a.1", "x", "m", "", api.ErrNone},
		{"a:r | m a.1", "x", "x", "", api.ErrNone},
		{"a:r | m a.1", "m", "", "", api.ErrNone},
		{"a:r | m a.1", "m", "m", "", api.ErrClash},
	} {
		x, f := Joined(someTypes(), list(c.x), c.a, c.b)
		wantFault(t, c.x+" "+c.a+" "+c.b, f, c.fault)
		want(t, c.x+" "+c.a+" "+c.b, x, list(c.want))
	}
	x := listOfPins(api.MaxNetPins)
	last := x.Parts[len(x.Parts)-1].Name
	x.Nets[0].Pins = x.Nets[0].Pins[:api.MaxNetPins-1]
	x.Nets = append(x.Nets, api.Net{Name: "o", Pins: []api.Pin{{Part: last, Pin: "2"}}})
	y, f := Joined(someTypes(), x, "n", "o")
	wantFault(t, "as many pins as can be", f, api.OK)
	want(t, "as many pins as can be", y, listOfPins(api.MaxNetPins))
	x = listOfPins(api.MaxNetPins)
	x.Parts = append(x.Parts, api.Part{Name: "S", Type: "r"})
	x.Nets = append(x.Nets, api.Net{Name: "o", Pins: pins("S.1")})
	y, f = Joined(someTypes(), x, "n", "o")
	wantFault(t, "too many pins", f, api.ErrLarge)
	wantZero(t, "too many pins", y)
}

// N4: a list without some parts.
func TestWithout(t *testing.T) {
	const all = "a:r b:r c:r | m a.1 b.1 | n a.2 | o b.2 c.1"
	for _, c := range []struct {
		parts []string
		want  string
		fault api.Fault
	}{
		{nil, all, api.OK},
		{[]string{"a"}, "b:r c:r | m b.1 | o b.2 c.1", api.OK},
		{[]string{"b"}, "a:r c:r | m a.1 | n a.2 | o c.1", api.OK},
		{[]string{"a", "c"}, "b:r | m b.1 | o b.2", api.OK},
		{[]string{"a", "b", "c"}, "", api.OK},
		{[]string{"d"}, "", api.ErrNone},
		{[]string{""}, "", api.ErrNone},
		{[]string{"a", "a"}, "", api.ErrOrder},
		{[]string{"b", "a"}, "", api.ErrOrder},
		{[]string{"b", "a", "d"}, "", api.ErrOrder},
		{[]string{"b", "d", "a"}, "", api.ErrNone},
	} {
		x, f := Without(someTypes(), list(all), c.parts)
		wantFault(t, fmt.Sprint(c.parts), f, c.fault)
		want(t, fmt.Sprint(c.parts), x, list(c.want))
	}
	many := names("R", api.MaxParts)
	x, f := Without(someTypes(), api.Netlist{Parts: partsOf("r", many)}, many)
	wantFault(t, "as many as can be", f, api.OK)
	want(t, "as many as can be", x, api.Netlist{})
	_, f = Without(someTypes(), list(all), make([]string, api.MaxParts))
	wantFault(t, "as many names as can be", f, api.ErrNone)
	_, f = Without(someTypes(), list(all), make([]string, api.MaxParts+1))
	wantFault(t, "too many names", f, api.ErrLarge)
}

// modelIslands joins the parts of each net again and again.
func modelIslands(x api.Netlist, without []string) [][]string {
	island := map[string]string{}
	for _, p := range x.Parts {
		island[p.Name] = p.Name
	}
	for again := true; again; {
		again = false
		for _, n := range x.Nets {
			for _, p := range n.Pins {
				first := n.Pins[0].Part
				if slices.Contains(without, n.Name) || island[p.Part] == island[first] {
					continue
				}
				least := min(island[p.Part], island[first])
				island[p.Part], island[first] = least, least
				again = true
			}
		}
	}
	var l [][]string
	for _, first := range x.Parts {
		var one []string
		for _, p := range x.Parts {
			if island[p.Name] == first.Name {
				one = append(one, p.Name)
			}
		}
		if one != nil {
			l = append(l, one)
		}
	}
	return l
}

// N4: the parts that hang together.
func TestIslands(t *testing.T) {
	const all = "a:r b:r c:r d:r e:r f:r | m a.1 e.1 | n b.1 c.1 | o c.2 e.2 | p d.1 d.2"
	for _, c := range []struct {
		without []string
		want    string
		fault   api.Fault
	}{
		{nil, "a b c e | d | f", api.OK},
		{[]string{"m"}, "a | b c e | d | f", api.OK},
		{[]string{"o"}, "a e | b c | d | f", api.OK},
		{[]string{"m", "n", "o", "p"}, "a | b | c | d | e | f", api.OK},
		{[]string{"q"}, "", api.ErrNone},
		{[]string{"n", "m"}, "", api.ErrOrder},
		{[]string{"n", "n"}, "", api.ErrOrder},
		{[]string{"n", "m", "q"}, "", api.ErrOrder},
		{[]string{"n", "q", "m"}, "", api.ErrNone},
	} {
		l, f := Islands(someTypes(), list(all), c.without)
		wantFault(t, fmt.Sprint(c.without), f, c.fault)
		var islands [][]string
		for _, one := range strings.Split(c.want, "|") {
			if c.want != "" {
				islands = append(islands, strings.Fields(one))
			}
		}
		want(t, fmt.Sprint(c.without), l, islands)
	}
	l, f := Islands(someTypes(), api.Netlist{}, nil)
	wantFault(t, "no parts", f, api.OK)
	want(t, "no parts", l, [][]string{})
	x := listOfNets(api.MaxNets)
	_, f = Islands(someTypes(), x, names("n", api.MaxNets))
	wantFault(t, "as many nets as can be", f, api.OK)
	_, f = Islands(someTypes(), x, make([]string, api.MaxNets+1))
	wantFault(t, "too many nets", f, api.ErrLarge)
}

// N4: islands of random lists.
func TestIslandsAndModel(t *testing.T) {
	rnd := rand.New(rand.NewPCG(6, 6))
	for range 1000 {
		x := randomList(rnd, 9, 9)
		var without []string
		for _, n := range x.Nets {
			if rnd.IntN(4) == 0 {
				without = append(without, n.Name)
			}
		}
		l, f := Islands(someTypes(), x, without)
		wantFault(t, "Islands", f, api.OK)
		want(t, fmt.Sprintf("%+v without %v", x, without), l, modelIslands(x, without))
	}
}
