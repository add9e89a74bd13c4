package rules_test

import (
	"fmt"
	"math/rand/v2"
	"reflect"
	"slices"
	"strings"
	"testing"

	"etchhouse/api"
	"etchhouse/copper"
	"etchhouse/shape"
)

func wantFault(t *testing.T, what string, got, want api.Fault) {
	t.Helper()
	if got != want {
		t.Errorf("%s: fault %d, want %d", what, got, want)
	}
}

// want holds results against each other; nil and an empty list are the same.
func want(t *testing.T, what string, got, want any) {
	t.Helper()
	if want == nil {
		want = []int{}
	}
	if g, w := fmt.Sprintf("%+v", got), fmt.Sprintf("%+v", want); g != w {
		t.Errorf("%.5000s:\ngot  %.2000s\nwant %.2000s", what, g, w)
	}
}

// wantGood holds a result that comes without a fault.
func wantGood(t *testing.T, what string, got any, f api.Fault, wanted any) {
	t.Helper()
	wantFault(t, what, f, api.OK)
	want(t, what, got, wanted)
}

// wantWrong holds a fault, and that the result that comes with it is zero.
func wantWrong(t *testing.T, what string, got any, f, wanted api.Fault) {
	t.Helper()
	wantFault(t, what, f, wanted)
	if !isZero(got) {
		t.Errorf("%s: got %.500s beside a fault", what, fmt.Sprintf("%+v", got))
	}
}

// wantBreaks holds what is told without a fault.
func wantBreaks(t *testing.T, what string, got []api.Break, f api.Fault, wanted ...api.Break) {
	t.Helper()
	wantGood(t, what, got, f, wanted)
}

func isZero(got any) bool {
	switch v := reflect.ValueOf(got); v.Kind() {
	case reflect.Slice:
		return v.Len() == 0
	case reflect.Struct:
		for i := range v.NumField() {
			if !isZero(v.Field(i).Interface()) {
				return false
			}
		}
		return true
	default:
		return v.IsZero()
	}
}

// tried calls a function many times with a source of numbers.
func tried(t *testing.T, times int, f func(rnd *rand.Rand)) {
	t.Helper()
	rnd := rand.New(rand.NewPCG(6, 6))
	for range times {
		if f(rnd); t.Failed() {
			return
		}
	}
}

func rect(x0, y0, x1, y1 int) api.Rect {
	return api.Rect{X0: x0, Y0: y0, X1: x1, Y1: y1}
}

func point(x, y int) api.Point {
	return api.Point{X: x, Y: y}
}

// region makes a region of rectangles.
func region(l ...api.Rect) []api.Rect {
	r, f := shape.Region(l)
	if f != api.OK {
		panic(fmt.Sprint("no region: ", f))
	}
	return r
}

// strips are so many rectangles of the width 1 with as much between them, the first one from x on.
func strips(many, x, y0, y1 int) []api.Rect {
	var out []api.Rect
	for i := range many {
		out = append(out, rect(x+2*i, y0, x+2*i+1, y1))
	}
	return out
}

// art is a board with a wide outline, each of whose coppers is these rectangles.
func art(coppers ...[]api.Rect) api.Art {
	a := api.Art{Outline: region(rect(-100, -100, 100, 100))}
	for _, l := range coppers {
		a.Coppers = append(a.Coppers, region(l...))
	}
	return a
}

// two is a board with two pieces of 5 by 5 squares on one layer, and so many squares between them.
func two(between int) api.Art {
	return art([]api.Rect{rect(0, 0, 5, 5), rect(5+between, 0, 10+between, 5)})
}

func bore(x, y, size, from, to int) api.Bore {
	return api.Bore{At: point(x, y), Size: size, From: from, To: to, Plated: true}
}

// plain makes a bore that is not plated.
func plain(x, y, size, from, to int) api.Bore {
	b := bore(x, y, size, from, to)
	b.Plated = false
	return b
}

// pin reads PART.PIN.
func pin(name string) api.Pin {
	part, one, _ := strings.Cut(name, ".")
	return api.Pin{Part: part, Pin: one}
}

// land makes that of PART.PIN.
func land(name string, layer, x, y int) api.Land {
	p := pin(name)
	return api.Land{Part: p.Part, Pin: p.Pin, Layer: layer, At: point(x, y)}
}

// kinds are types x and y with two and three pins.
func kinds() []api.PartType {
	one := func(name string) api.PinType { return api.PinType{Name: name, Kind: api.PinPassive} }
	return []api.PartType{
		{Name: "x", Pins: []api.PinType{one("1"), one("2")}},
		{Name: "y", Pins: []api.PinType{one("1"), one("2"), one("3")}},
	}
}

// list reads "NAME:TYPE NAME:TYPE | NET PART.PIN PART.PIN | NET ..".
func list(text string) api.Netlist {
	var x api.Netlist
	lines := strings.Split(text, "|")
	for _, word := range strings.Fields(lines[0]) {
		name, kind, _ := strings.Cut(word, ":")
		x.Parts = append(x.Parts, api.Part{Name: name, Type: kind})
	}
	for _, line := range lines[1:] {
		words := strings.Fields(line)
		net := api.Net{Name: words[0]}
		for _, name := range words[1:] {
			net.Pins = append(net.Pins, pin(name))
		}
		x.Nets = append(x.Nets, net)
	}
	return x
}

// class reads "NAME NET NET ..".
func class(text string, clearance, width int) api.NetClass {
	words := strings.Fields(text)
	return api.NetClass{Name: words[0], Nets: words[1:], Clearance: clearance, Width: width}
}

func area(layer, clearance int, l ...api.Rect) api.RuleArea {
	return api.RuleArea{Layer: layer, Region: region(l...), Clearance: clearance}
}

// someRules are rules without faults, which have all that rules can have.
func someRules() api.RuleSet {
	return api.RuleSet{
		Clearance: 4, Width: 3, Ring: 2, Edge: 5, HoleGap: 6,
		Classes: []api.NetClass{class("fast a b/c", 7, 0), class("none", 0, 0), class("wide d", 0, 5)},
		Areas:   []api.RuleArea{area(-1, 2, rect(0, 0, 10, 10)), area(1, 9, rect(5, 5, 20, 20), rect(30, 30, 31, 31))},
	}
}

// some is a board without faults on which all kinds of rules are broken by someRules.
func some() api.Art {
	return api.Art{
		Coppers: [][]api.Rect{
			region(rect(0, 0, 10, 2), rect(20, 0, 30, 10), rect(40, 0, 50, 10)),
			region(rect(0, 0, 30, 10), rect(33, 0, 50, 10)),
			nil,
		},
		Outline: region(rect(-10, -10, 52, 20)),
		Bores:   []api.Bore{bore(5, 1, 2, 0, 0), bore(25, 5, 2, 0, 2), plain(45, 5, 2, 0, 1), bore(31, 5, 2, 0, 2)},
		Lands:   []api.Land{land("a.1", 0, 0, 0), land("a.2", 0, 9, 1), land("b.1", 1, 0, 9), land("b.2", 0, 25, 5), land("c.1", 2, 31, 5), land("c.2", 0, 45, 9)},
	}
}

// someNets are those of the groups of some.
func someNets() []string {
	return []string{"a", "d", "", "b/c"}
}

// groupsOf counts the groups of a board without faults.
func groupsOf(a api.Art) int {
	g, f := copper.Groups(a)
	if f != api.OK {
		panic(fmt.Sprint("no board: ", f))
	}
	return len(g)
}

// noNets are empty names for the groups of a board.
func noNets(a api.Art) []string {
	return make([]string, groupsOf(a))
}

// roomy copies a list; there is spare capacity behind it, in which something stands.
func roomy[T any](l []T) []T {
	return append(slices.Clone(l), l...)[:len(l)]
}

// roomyArt is a board with memory of its own, and spare capacity.
func roomyArt(a api.Art) api.Art {
	out := api.Art{Coppers: roomy(a.Coppers), Outline: roomy(a.Outline), Bores: roomy(a.Bores), Lands: roomy(a.Lands)}
	for i, r := range out.Coppers {
		out.Coppers[i] = roomy(r)
	}
	return out
}

// roomyRules are rules with memory of their own, and spare capacity.
func roomyRules(r api.RuleSet) api.RuleSet {
	r.Classes, r.Areas = roomy(r.Classes), roomy(r.Areas)
	for i, c := range r.Classes {
		r.Classes[i].Nets = roomy(c.Nets)
	}
	for i, a := range r.Areas {
		r.Areas[i].Region = roomy(a.Region)
	}
	return r
}
