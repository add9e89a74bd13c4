package rules_test

import (
	"fmt"
	"math"
	"reflect"
	"slices"
	"strings"
	"testing"

	"etchhouse/api"
	"etchhouse/rules"
)

// given is all that functions of the package are called with.
type given struct {
	types []api.PartType
	list  api.Netlist
	rules api.RuleSet
	art   api.Art
	nets  []string
	r     []api.Rect
}

func someGiven() given {
	return given{kinds(), list("a:x b:x c:x | m a.1 b.2 | n a.2 b.1"), someRules(), some(), someNets(), region(rect(12, 12, 20, 13), rect(12, 13, 14, 20))}
}

func (g given) roomy() given {
	out := given{roomy(g.types), g.list, roomyRules(g.rules), roomyArt(g.art), roomy(g.nets), roomy(g.r)}
	out.list.Parts, out.list.Nets = roomy(g.list.Parts), roomy(g.list.Nets)
	for i, n := range out.list.Nets {
		out.list.Nets[i].Pins = roomy(n.Pins)
	}
	for i, k := range out.types {
		out.types[i].Pins = roomy(k.Pins)
	}
	return out
}

// whole shows all slices in a value, with what stands in spare capacity.
func whole(v reflect.Value) string {
	switch v.Kind() {
	case reflect.Slice:
		var out strings.Builder
		v = v.Slice(0, v.Cap())
		for i := range v.Len() {
			fmt.Fprint(&out, whole(v.Index(i)), ";")
		}
		return out.String()
	case reflect.Struct:
		var out strings.Builder
		for i := range v.NumField() {
			fmt.Fprint(&out, whole(v.Field(i)), ",")
		}
		return out.String()
	}
	return fmt.Sprint(v)
}

// results of all functions, the fault at last.
func (g given) results() map[string][]any {
	out := map[string][]any{}
	keep := func(name string) func(results ...any) {
		return func(results ...any) { out[name] = results }
	}
	r, a := g.rules, g.art
	keep("CheckRules")(rules.CheckRules(r))
	keep("WidthOf")(rules.WidthOf(r, "d"))
	keep("Needs")(rules.Needs(r, "a", "b", 1, point(7, 7)))
	keep("NetsOf")(rules.NetsOf(g.types, g.list, a))
	keep("Clear")(rules.Clear(r, a, g.nets))
	keep("Narrow")(rules.Narrow(r, a, g.nets))
	keep("Rings")(rules.Rings(r, a))
	keep("Edges")(rules.Edges(r, a))
	keep("HoleGaps")(rules.HoleGaps(r, a))
	keep("All")(rules.All(r, a, g.nets))
	keep("Thin")(rules.Thin(g.r, 2))
	keep("Thin for 0")(rules.Thin(g.r, 0))
	keep("Thin everywhere")(rules.Thin(g.r, 50))
	keep("Least")(rules.Least(a))
	keep("Room")(rules.Room(r, a, g.nets, "d", 0))
	keep("Room on an empty layer")(rules.Room(r, a, g.nets, "d", 2))
	keep("Fits")(rules.Fits(r, a, g.nets, "d", 0, g.r))
	keep("Text")(rules.Text(r))
	return out
}

// part is the memory of a slice, with its spare capacity.
type part struct{ from, to uintptr }

// partsOf returns the memory of all slices in a value.
func partsOf(v reflect.Value) []part {
	var l []part
	switch v.Kind() {
	case reflect.Interface:
		return partsOf(v.Elem())
	case reflect.Slice:
		if size := uintptr(v.Cap()) * v.Type().Elem().Size(); size > 0 {
			l = append(l, part{v.Pointer(), v.Pointer() + size})
		}
		for i := range v.Len() {
			l = append(l, partsOf(v.Index(i))...)
		}
	case reflect.Struct:
		for i := range v.NumField() {
			l = append(l, partsOf(v.Field(i))...)
		}
	}
	return l
}

// haveCommon says whether two slices have memory in common.
func haveCommon(l []part) bool {
	slices.SortFunc(l, func(a, b part) int { return int(a.from) - int(b.from) })
	for i := 1; i < len(l); i++ {
		if l[i].from < l[i-1].to {
			return true
		}
	}
	return false
}

// Q2: arguments stay, and with them what stands in their spare capacity, which is not read either; results are new memory. Q4: the same arguments have the same results.
func TestArgumentsAndResults(t *testing.T) {
	g := someGiven().roomy()
	before := whole(reflect.ValueOf(g))
	first, again, plain := g.results(), g.results(), someGiven().results()
	want(t, "arguments", whole(reflect.ValueOf(g)), before)
	parts := partsOf(reflect.ValueOf(g))
	for name, results := range first {
		want(t, name, results[len(results)-1], api.OK)
		want(t, name+" again", again[name], results)
		want(t, name+" without spare capacity", plain[name], results)
		for _, r := range slices.Concat(results, again[name]) {
			parts = append(parts, partsOf(reflect.ValueOf(r))...)
		}
	}
	if haveCommon(parts) {
		t.Error("a result shares memory")
	}
	r, _, f := rules.Read(someText)
	other, _, g2 := rules.Read(someText)
	wantFault(t, "Read", max(f, g2), api.OK)
	if haveCommon(append(partsOf(reflect.ValueOf(r)), partsOf(reflect.ValueOf(other))...)) {
		t.Error("a result of Read shares memory")
	}
}

// Q3, R1: all functions with rules return the fault of CheckRules first, then that of the board; results are zero beside it.
func TestResultsBesideFaults(t *testing.T) {
	hold := func(what string, g given, without []string, fault api.Fault) {
		for name, results := range g.results() {
			if slices.Contains(without, name) {
				continue
			}
			last := len(results) - 1
			want(t, name+": "+what, results[last], fault)
			for _, r := range results[:last] {
				if !isZero(r) {
					t.Errorf("%s: %s: got %+v beside a fault", name, what, r)
				}
			}
		}
	}
	ofThin := []string{"Thin", "Thin for 0", "Thin everywhere"}
	for _, b := range breaches() {
		g := someGiven()
		g.rules = breachable()
		b.do(&g.rules)
		g.art.Bores[0].Size = 0
		g.art.Outline = []api.Rect{{}}
		g.nets = nil
		hold(b.what, g, append(ofThin, "NetsOf", "Least"), b.fault)
	}
	g := someGiven()
	g.art.Outline = []api.Rect{{}}
	g.nets = nil
	hold("the board", g, append(ofThin, "CheckRules", "WidthOf", "Needs", "Text"), api.ErrZero)
	g.art = api.Art{}
	hold("no board", g, append(ofThin, "CheckRules", "WidthOf", "Needs", "Text"), api.ErrNone)
}

// Q4: nil and an empty list are the same.
func TestEmptyLists(t *testing.T) {
	g := given{kinds(), list("a:x"), api.RuleSet{Clearance: 3, Classes: []api.NetClass{{Name: "a"}}, Areas: []api.RuleArea{{}}}, api.Art{Coppers: make([][]api.Rect, 3)}, nil, nil}
	empty := given{g.types, g.list, api.RuleSet{Clearance: 3, Classes: []api.NetClass{{Name: "a", Nets: []string{}}}, Areas: []api.RuleArea{{Region: []api.Rect{}}}},
		api.Art{Coppers: [][]api.Rect{{}, {}, {}}, Outline: []api.Rect{}, Bores: []api.Bore{}, Lands: []api.Land{}}, []string{}, []api.Rect{}}
	for name, results := range empty.results() {
		want(t, name, results, g.results()[name])
		want(t, name, results[len(results)-1], api.OK)
	}
	wantFault(t, "no classes", rules.CheckRules(api.RuleSet{Classes: []api.NetClass{}, Areas: []api.RuleArea{}}), api.OK)
}

// Q1: there is a result for the strangest arguments.
func TestStrangeArguments(t *testing.T) {
	const low, high = math.MinInt, math.MaxInt
	long := strings.Repeat("x", 100000)
	sets := []api.RuleSet{
		{}, someRules(), {Clearance: low}, {HoleGap: high}, {Classes: make([]api.NetClass, 100000)}, {Areas: make([]api.RuleArea, 100000)},
		{Classes: []api.NetClass{{Name: long}, {Name: "\xff", Nets: []string{long, ""}}}}, {Classes: []api.NetClass{{Name: "a", Nets: make([]string, 100000)}}},
		{Areas: []api.RuleArea{{Layer: high, Region: make([]api.Rect, 100000)}}}, {Areas: []api.RuleArea{{Region: []api.Rect{rect(low, high, high, low)}, Clearance: low}}},
		{Clearance: api.MaxRule, Width: api.MaxRule, Ring: api.MaxRule, Edge: api.MaxRule, HoleGap: api.MaxRule},
	}
	boards := []api.Art{
		{}, some(), {Coppers: make([][]api.Rect, 100000)}, {Coppers: [][]api.Rect{make([]api.Rect, 100000)}}, {Coppers: [][]api.Rect{{rect(low, low, high, high)}}},
		{Coppers: make([][]api.Rect, 1), Bores: make([]api.Bore, 100000)}, {Coppers: make([][]api.Rect, 1), Bores: []api.Bore{bore(high, low, high, low, high)}},
		{Coppers: make([][]api.Rect, 1), Lands: []api.Land{{Part: long, Pin: "\xff", Layer: high}}},
	}
	for _, r := range sets {
		for _, a := range boards {
			for _, nets := range [][]string{nil, someNets(), {long, "\xff"}, make([]string, 100000)} {
				given{nil, api.Netlist{}, r, a, nets, []api.Rect{rect(high, low, low, high)}}.results()
				given{[]api.PartType{{}}, api.Netlist{Nets: []api.Net{{}}}, r, a, nets, make([]api.Rect, 100000)}.results()
			}
		}
		for _, n := range []int{low, -1, 0, 1, 100, high} {
			rules.Needs(r, long, "\xff", n, point(n, n))
			rules.Needs(r, "a", "", 0, point(n, 0))
			rules.WidthOf(r, "\xff")
			rules.Thin([]api.Rect{rect(0, 0, 1, 1)}, n)
			rules.Room(r, some(), someNets(), "a", n)
			rules.Fits(r, some(), someNets(), "a", n, []api.Rect{rect(n, n, n, n)})
		}
	}
	for _, text := range []string{long, "\xff\n", "\x00", "rules 0 0 0 0 0\n" + long, strings.Repeat("rules 0 0 0 0 0\n", 1000), strings.Repeat(" ", 1000) + "\n"} {
		rules.Read(text)
	}
}

// The example at the end of the chapter.
func TestExample(t *testing.T) {
	a := two(3)
	l, f := rules.Clear(api.RuleSet{Clearance: 4}, a, []string{"a", "b"})
	wantBreaks(t, "a Clearance of 4", l, f, tooNear(0, 1, 3, 4, 4, 0))
	l, f = rules.Clear(api.RuleSet{Clearance: 4, Areas: []api.RuleArea{area(0, 3, rect(0, 0, 20, 20))}}, a, []string{"a", "b"})
	wantBreaks(t, "an area with a Clearance of 3", l, f)
	strip := region(rect(0, 0, 2, 10))
	r, f := rules.Thin(strip, 3)
	wantGood(t, "a strip", r, f, strip)
	l, f = rules.Narrow(api.RuleSet{Width: 3}, art(strip), []string{""})
	wantBreaks(t, "a strip", l, f, tooNarrow(0, 2, 3, 0, 0))
}
