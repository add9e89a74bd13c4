package netlist

import (
	"fmt"
	"math/rand/v2"
	"slices"
	"testing"

	"etchhouse/api"
)

// onePinTypes has a type with one pin p of each kind, called by its number.
func onePinTypes() []api.PartType {
	var l []api.PartType
	for kind := api.PinIn; kind <= api.PinFree; kind++ {
		l = append(l, api.PartType{Name: fmt.Sprint(kind), Pins: []api.PinType{{Name: "p", Kind: kind}}})
	}
	return l
}

// oneNet has one net n, with a part for each kind: a, b, c and so on.
func oneNet(kinds ...int) api.Netlist {
	x := api.Netlist{Nets: []api.Net{{Name: "n"}}}
	for i, kind := range kinds {
		name := string(rune('a' + i))
		x.Parts = append(x.Parts, api.Part{Name: name, Type: fmt.Sprint(kind)})
		x.Nets[0].Pins = append(x.Nets[0].Pins, api.Pin{Part: name, Pin: "p"})
	}
	return x
}

// modelFindings is what chapter 2 says of one net, kind by kind.
func modelFindings(kinds []int) []api.Finding {
	x := oneNet(kinds...)
	pinsOf := func(wanted ...int) []api.Pin {
		l := []api.Pin{}
		for i, kind := range kinds {
			if slices.Contains(wanted, kind) {
				l = append(l, x.Nets[0].Pins[i])
			}
		}
		return l
	}
	has := func(kind int) bool { return slices.Contains(kinds, kind) }
	var l []api.Finding
	if len(pinsOf(api.PinOut)) >= 2 || has(api.PinOut) && has(api.PinSource) {
		l = append(l, api.Finding{Kind: api.FindTwo, Net: "n", Pins: pinsOf(api.PinOut, api.PinSource)})
	}
	if has(api.PinIn) && !has(api.PinOut) && !has(api.PinBoth) && !has(api.PinPassive) && !has(api.PinSource) {
		l = append(l, api.Finding{Kind: api.FindNone, Net: "n", Pins: pinsOf(api.PinIn)})
	}
	if has(api.PinPower) && !has(api.PinSource) {
		l = append(l, api.Finding{Kind: api.FindPower, Net: "n", Pins: pinsOf(api.PinPower)})
	}
	if has(api.PinFree) {
		l = append(l, api.Finding{Kind: api.FindFree, Net: "n", Pins: pinsOf(api.PinFree)})
	}
	if len(kinds) == 1 && !has(api.PinFree) {
		l = append(l, api.Finding{Kind: api.FindOne, Net: "n", Pins: x.Nets[0].Pins})
	}
	return l
}

// N5: all nets with from one to four pins.
func TestFindingsOfNets(t *testing.T) {
	var all func(kinds []int)
	all = func(kinds []int) {
		if len(kinds) > 0 {
			l, f := Findings(onePinTypes(), oneNet(kinds...))
			wantFault(t, fmt.Sprint(kinds), f, api.OK)
			want(t, fmt.Sprint(kinds), l, modelFindings(kinds))
		}
		if len(kinds) == 4 {
			return
		}
		for kind := api.PinIn; kind <= api.PinFree; kind++ {
			all(append(slices.Clone(kinds), kind))
		}
	}
	all(nil)
}

// N5: what is told of some nets, in words.
func TestFindings(t *testing.T) {
	told := func(kind int, net, text string) api.Finding {
		return api.Finding{Kind: kind, Net: net, Pins: pins(text)}
	}
	for _, c := range []struct {
		what  string
		kinds []int
		want  []api.Finding
	}{
		{"two out", []int{2, 6, 2}, []api.Finding{told(api.FindTwo, "n", "a.p c.p")}},
		{"out and source", []int{5, 2, 1}, []api.Finding{told(api.FindTwo, "n", "a.p b.p")}},
		{"two sources", []int{5, 5}, nil},
		{"out and both", []int{2, 3}, nil},
		{"in and in", []int{1, 1}, []api.Finding{told(api.FindNone, "n", "a.p b.p")}},
		{"in, power and free", []int{1, 4, 7}, []api.Finding{told(api.FindNone, "n", "a.p"), told(api.FindPower, "n", "b.p"), told(api.FindFree, "n", "c.p")}},
		{"in and passive", []int{1, 6}, nil},
		{"in and source", []int{1, 5}, nil},
		{"power and out", []int{4, 2}, []api.Finding{told(api.FindPower, "n", "a.p")}},
		{"power and source", []int{4, 5}, nil},
		{"in alone", []int{1}, []api.Finding{told(api.FindNone, "n", "a.p"), told(api.FindOne, "n", "a.p")}},
		{"passive alone", []int{6}, []api.Finding{told(api.FindOne, "n", "a.p")}},
		{"free alone", []int{7}, []api.Finding{told(api.FindFree, "n", "a.p")}},
	} {
		l, f := Findings(onePinTypes(), oneNet(c.kinds...))
		wantFault(t, c.what, f, api.OK)
		want(t, c.what, l, c.want)
	}
	l, f := Findings(someTypes(), someList())
	wantFault(t, "someList", f, api.OK)
	want(t, "someList", l, []api.Finding{
		told(api.FindPower, "g", "D/x.v E.v"),
		told(api.FindOpen, "", "C.k"),
		told(api.FindOpen, "", "D/x.b"),
		told(api.FindOpen, "", "D/x.w"),
		told(api.FindOpen, "", "E.w"),
	})
	l, f = Findings(someTypes(), list("a:r | m b.1"))
	wantFault(t, "a broken list", f, api.ErrNone)
	wantZero(t, "a broken list", l)
}

// N5: nets in order, then loose pins of each kind.
func TestFindingsOfLoosePins(t *testing.T) {
	x := api.Netlist{}
	var expected []api.Finding
	for _, kind := range []int{1, 2, 3, 4, 5, 6, 7} {
		name := fmt.Sprint("P", kind)
		x.Parts = append(x.Parts, api.Part{Name: name, Type: fmt.Sprint(kind)})
		if kind != api.PinFree && kind != api.PinPassive {
			expected = append(expected, api.Finding{Kind: api.FindOpen, Pins: []api.Pin{{Part: name, Pin: "p"}}})
		}
	}
	l, f := Findings(onePinTypes(), x)
	wantFault(t, "loose", f, api.OK)
	want(t, "loose", l, expected)
	x.Parts = append(x.Parts, api.Part{Name: "Q", Type: "6"})
	x.Nets = []api.Net{{Name: "a", Pins: pins("Q.p")}, {Name: "b", Pins: pins("P6.p")}}
	l, f = Findings(onePinTypes(), x)
	wantFault(t, "nets first", f, api.OK)
	want(t, "nets first", l, append([]api.Finding{{Kind: api.FindOne, Net: "a", Pins: pins("Q.p")}, {Kind: api.FindOne, Net: "b", Pins: pins("P6.p")}}, expected...))
}

// modelChanges looks at all names of both lists.
func modelChanges(a, b api.Netlist) []api.ListChange {
	typeOf := func(x api.Netlist, part string) string {
		for _, p := range x.Parts {
			if p.Name == part {
				return p.Type
			}
		}
		return ""
	}
	netOf := func(x api.Netlist, p api.Pin) string {
		name, _, _ := NetOf(someTypes(), x, p)
		return name
	}
	var l [5][]api.ListChange
	tell := func(kind int, name, pin string) {
		l[kind] = append(l[kind], api.ListChange{Kind: kind, Name: name, Pin: pin})
	}
	all := map[string]bool{}
	for _, p := range slices.Concat(a.Parts, b.Parts) {
		all[p.Name] = true
	}
	var sorted []string
	for name := range all {
		sorted = append(sorted, name)
	}
	slices.Sort(sorted)
	for _, name := range sorted {
		ta, tb := typeOf(a, name), typeOf(b, name)
		switch {
		case ta == "":
			tell(api.ListPartNew, name, "")
		case tb == "":
			tell(api.ListPartGone, name, "")
		case ta != tb:
			tell(api.ListPartType, name, "")
		default:
			kind := slices.IndexFunc(someTypes(), func(k api.PartType) bool { return k.Name == ta })
			for _, one := range someTypes()[kind].Pins {
				p := api.Pin{Part: name, Pin: one.Name}
				if netOf(a, p) != netOf(b, p) {
					tell(api.ListPinNet, name, one.Name)
				}
			}
		}
	}
	return slices.Concat(l[:]...)
}

// change tells a change.
func change(kind int, name, pin string) api.ListChange {
	return api.ListChange{Kind: kind, Name: name, Pin: pin}
}

// N6: how two lists differ.
func TestChanges(t *testing.T) {
	for _, c := range []struct {
		what, a, b string
		want       []api.ListChange
	}{
		{"nothing", "a:r | n a.1", "a:r | n a.1", nil},
		{"both empty", "", "", nil},
		{"new and gone", "a:r c:r", "b:r c:r d:r", []api.ListChange{
			change(api.ListPartNew, "b", ""),
			change(api.ListPartNew, "d", ""),
			change(api.ListPartGone, "a", ""),
		}},
		{"type", "a:r b:c | n a.1 b.k", "a:c b:c | n a.k b.k", []api.ListChange{change(api.ListPartType, "a", "")}},
		{"net of another name", "a:r | n a.1 a.2", "a:r | m a.1 | n a.2", []api.ListChange{change(api.ListPinNet, "a", "1")}},
		{"in a net in one alone", "a:r | n a.1", "a:r | n a.2", []api.ListChange{
			change(api.ListPinNet, "a", "1"),
			change(api.ListPinNet, "a", "2"),
		}},
		{"pins of new and gone parts", "a:r c:r | n a.1 c.1", "b:r c:r | n b.1 c.1", []api.ListChange{
			change(api.ListPartNew, "b", ""),
			change(api.ListPartGone, "a", ""),
		}},
		{"kinds before names", "a:r b:r c:r d:r | n a.1", "a:r b:c d:r e:r | n d.1", []api.ListChange{
			change(api.ListPartNew, "e", ""),
			change(api.ListPartGone, "c", ""),
			change(api.ListPartType, "b", ""),
			change(api.ListPinNet, "a", "1"),
			change(api.ListPinNet, "d", "1"),
		}},
	} {
		l, f := Changes(someTypes(), list(c.a), list(c.b))
		wantFault(t, c.what, f, api.OK)
		want(t, c.what, l, c.want)
	}
	l, f := Changes(someTypes(), list(""), list("b:r a:r"))
	wantFault(t, "a broken list", f, api.ErrOrder)
	wantZero(t, "a broken list", l)
}

// N6: changes of random lists.
func TestChangesAndModel(t *testing.T) {
	rnd := rand.New(rand.NewPCG(8, 8))
	for range 500 {
		a, b := randomList(rnd, 6, 6), randomList(rnd, 6, 6)
		if rnd.IntN(2) == 0 {
			b = cloned(a)
			if len(b.Nets) > 0 {
				b.Nets[0].Name = "0"
				b.Nets[0].Pins = b.Nets[0].Pins[:1]
			}
		}
		l, f := Changes(someTypes(), a, b)
		wantFault(t, "Changes", f, api.OK)
		want(t, fmt.Sprintf("%+v\n%+v", a, b), l, modelChanges(a, b))
	}
}
