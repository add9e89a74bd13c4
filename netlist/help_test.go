package netlist

import (
	"fmt"
	"math/rand/v2"
	"reflect"
	"slices"
	"strings"
	"testing"

	"etchhouse/api"
)

// someTypes has pins of all kinds, with and without groups.
func someTypes() []api.PartType {
	return []api.PartType{
		{Name: "c", Pins: pinTypes("k:3")},
		{Name: "gate", Pins: pinTypes("a:1:1 b:1:1 v:4 w:5 y:2")},
		{Name: "nc", Pins: pinTypes("f:7:2 g:7:2 h:6")},
		{Name: "r", Pins: pinTypes("1:6:1 2:6:1")},
		{Name: "two", Pins: pinTypes("a:6 b:6:200 c:6 d:6:3 e:6:200 f:6:3 g:6")},
	}
}

// pinTypes reads NAME:KIND:GROUP.
func pinTypes(text string) []api.PinType {
	var l []api.PinType
	for _, word := range strings.Fields(text) {
		var p api.PinType
		f := strings.Split(word, ":")
		p.Name = f[0]
		fmt.Sscan(f[1], &p.Kind)
		if len(f) > 2 {
			fmt.Sscan(f[2], &p.Group)
		}
		l = append(l, p)
	}
	return l
}

// pin reads PART.PIN.
func pin(text string) api.Pin {
	part, name, _ := strings.Cut(text, ".")
	return api.Pin{Part: part, Pin: name}
}

func pins(text string) []api.Pin {
	var l []api.Pin
	for _, word := range strings.Fields(text) {
		l = append(l, pin(word))
	}
	return l
}

// list reads "NAME:TYPE NAME:TYPE | NET PART.PIN PART.PIN | NET ..".
func list(text string) api.Netlist {
	var x api.Netlist
	lines := strings.Split(text, "|")
	for _, word := range strings.Fields(lines[0]) {
		name, kind, _ := strings.Cut(word, ":")
		x.Parts = append(x.Parts, api.Part{Name: name, Type: kind})
	}
	for _, line := range lines[1:] {
		name, rest, _ := strings.Cut(strings.TrimSpace(line), " ")
		x.Nets = append(x.Nets, api.Net{Name: name, Pins: pins(rest)})
	}
	return x
}

// names makes increasing words.
func names(first string, many int) []string {
	var l []string
	for i := range many {
		l = append(l, fmt.Sprintf("%s%05d", first, i))
	}
	return l
}

func partsOf(kind string, names []string) []api.Part {
	var l []api.Part
	for _, name := range names {
		l = append(l, api.Part{Name: name, Type: kind})
	}
	return l
}

// wideType has pins p00000, p00001 and so on.
func wideType(name string, kind, many int) api.PartType {
	t := api.PartType{Name: name}
	for _, p := range names("p", many) {
		t.Pins = append(t.Pins, api.PinType{Name: p, Kind: kind})
	}
	return t
}

func wantFault(t *testing.T, what string, got, want api.Fault) {
	t.Helper()
	if got != want {
		t.Errorf("%s: fault %d, want %d", what, got, want)
	}
}

// want holds results against each other; nil and an empty list are the same.
func want(t *testing.T, what string, got, want any) {
	t.Helper()
	if g, w := fmt.Sprintf("%+v", got), fmt.Sprintf("%+v", want); g != w {
		t.Errorf("%s:\ngot  %s\nwant %s", what, g, w)
	}
}

// wantZero holds that a result that comes with a fault is zero.
func wantZero(t *testing.T, what string, got any) {
	t.Helper()
	v := reflect.ValueOf(got)
	if !v.IsZero() && !(v.Kind() == reflect.Slice && v.Len() == 0) {
		t.Errorf("%s: got %+v beside a fault", what, got)
	}
}

// breakage makes something wrong in one way.
type breakage[W any] struct {
	what string
	do   func(*W)
	want api.Fault
}

// wantInOrder does each breakage alone, and each two of them at once: then the one that the list has first must be told.
func wantInOrder[W any](t *testing.T, fresh func() W, l []breakage[W], check func(W) api.Fault) {
	t.Helper()
	wantFault(t, "nothing broken", check(fresh()), api.OK)
	for i, first := range l {
		for _, second := range l[i:] {
			there, back := fresh(), fresh()
			first.do(&there)
			second.do(&there)
			second.do(&back)
			first.do(&back)
			wantFault(t, first.what+", with "+second.what, check(there), first.want)
			wantFault(t, second.what+", then "+first.what, check(back), first.want)
		}
	}
}

// misplaced makes a name one that stands before others, unless it is none.
func misplaced(name string) string {
	if name == "" {
		return ""
	}
	return "#"
}

// randomList makes a list of someTypes.
func randomList(rnd *rand.Rand, parts, nets int) api.Netlist {
	var x api.Netlist
	types := someTypes()
	var free []api.Pin
	for _, name := range names("P", rnd.IntN(parts+1)) {
		if rnd.IntN(3) == 0 {
			name = "S/" + name
		}
		kind := types[rnd.IntN(len(types))]
		x.Parts = append(x.Parts, api.Part{Name: name, Type: kind.Name})
		for _, p := range kind.Pins {
			free = append(free, api.Pin{Part: name, Pin: p.Name})
		}
	}
	slices.SortFunc(x.Parts, func(a, b api.Part) int { return strings.Compare(a.Name, b.Name) })
	rnd.Shuffle(len(free), func(i, k int) { free[i], free[k] = free[k], free[i] })
	for _, name := range names("N", nets) {
		n := min(1+rnd.IntN(4), len(free))
		if n == 0 || rnd.IntN(4) == 0 {
			continue
		}
		one := api.Net{Name: name, Pins: slices.Clone(free[:n])}
		slices.SortFunc(one.Pins, comparePins)
		free = free[n:]
		x.Nets = append(x.Nets, one)
	}
	return x
}

// cloned copies a list in depth.
func cloned(x api.Netlist) api.Netlist {
	y := api.Netlist{Parts: slices.Clone(x.Parts)}
	for _, n := range x.Nets {
		y.Nets = append(y.Nets, api.Net{Name: n.Name, Pins: slices.Clone(n.Pins), Ports: slices.Clone(n.Ports)})
	}
	return y
}
