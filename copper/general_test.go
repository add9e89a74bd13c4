package copper_test

import (
	"fmt"
	"math"
	"reflect"
	"slices"
	"strings"
	"testing"

	"etchhouse/api"
	"etchhouse/copper"
)

// given is all that functions of the package are called with.
type given struct {
	types []api.PartType
	list  api.Netlist
	art   api.Art
	r     []api.Rect
}

// someGiven has something wrong of each kind.
func someGiven() given {
	return given{kinds(), list("a:x b:x c:x d:x | m a.1 b.2 | n a.2 b.1 | o c.2 d.1"), some(), region(rect(0, 0, 5, 5))}
}

func (g given) roomy() given {
	out := given{roomy(g.types), g.list, copied(g.art), roomy(g.r)}
	out.list.Parts, out.list.Nets = roomy(g.list.Parts), roomy(g.list.Nets)
	for i, n := range out.list.Nets {
		out.list.Nets[i].Pins = roomy(n.Pins)
	}
	for i, k := range out.types {
		out.types[i].Pins = roomy(k.Pins)
	}
	return out
}

// whole shows all, with what stands in spare capacity.
func (g given) whole() string {
	var out strings.Builder
	for _, k := range g.types[:cap(g.types)] {
		fmt.Fprint(&out, k.Name, k.Pins[:cap(k.Pins)])
	}
	fmt.Fprint(&out, g.list.Parts[:cap(g.list.Parts)])
	for _, n := range g.list.Nets[:cap(g.list.Nets)] {
		fmt.Fprint(&out, n.Name, n.Pins[:cap(n.Pins)])
	}
	for _, r := range g.art.Coppers[:cap(g.art.Coppers)] {
		fmt.Fprint(&out, r[:cap(r)])
	}
	a := g.art
	fmt.Fprint(&out, a.Outline[:cap(a.Outline)], a.Bores[:cap(a.Bores)], a.Lands[:cap(a.Lands)], g.r[:cap(g.r)])
	return out.String()
}

// results of all functions with boards, the fault at last.
func (g given) results() map[string][]any {
	out := map[string][]any{}
	keep := func(name string) func(results ...any) {
		return func(results ...any) { out[name] = results }
	}
	a := g.art
	keep("CheckArt")(copper.CheckArt(a))
	keep("Drilled")(copper.Drilled(a))
	keep("Pieces")(copper.Pieces(a))
	keep("PieceRegion")(copper.PieceRegion(a, 2))
	keep("Touched")(copper.Touched(a, 1))
	keep("Groups")(copper.Groups(a))
	keep("GroupOf")(copper.GroupOf(a, pin("b.1")))
	keep("Made")(copper.Made(a))
	keep("Compare")(copper.Compare(g.types, g.list, a))
	keep("Islands")(copper.Islands(a))
	keep("Useless")(copper.Useless(a))
	keep("Way")(copper.Way(a, pin("b.2"), pin("b.1")))
	keep("Bridges")(copper.Bridges(a, pin("b.2"), pin("b.1")))
	keep("With")(copper.With(a, 0, g.r))
	keep("With nothing")(copper.With(a, 1, nil))
	keep("With on an empty layer")(copper.With(a, 2, g.r))
	keep("Without")(copper.Without(a, 0, g.r))
	keep("Without nothing")(copper.Without(a, 1, nil))
	return out
}

// part is the memory of a slice, with its spare capacity.
type part struct{ from, to uintptr }

// partsOf returns the memory of all slices in a value.
func partsOf(v reflect.Value) []part {
	var l []part
	switch v.Kind() {
	case reflect.Interface:
		return partsOf(v.Elem())
	case reflect.Slice:
		if size := uintptr(v.Cap()) * v.Type().Elem().Size(); size > 0 {
			l = append(l, part{v.Pointer(), v.Pointer() + size})
		}
		for i := range v.Len() {
			l = append(l, partsOf(v.Index(i))...)
		}
	case reflect.Struct:
		for i := range v.NumField() {
			l = append(l, partsOf(v.Field(i))...)
		}
	}
	return l
}

// haveCommon says whether two slices of some results have memory in common.
func haveCommon(l []part) bool {
	slices.SortFunc(l, func(a, b part) int { return int(a.from) - int(b.from) })
	for i := 1; i < len(l); i++ {
		if l[i].from < l[i-1].to {
			return true
		}
	}
	return false
}

// Q2: arguments stay, and with them what stands in their spare capacity, which is not read either; results are new memory. Q4: the same arguments have the same results.
func TestArgumentsAndResults(t *testing.T) {
	g := someGiven().roomy()
	before := g.whole()
	first, again, plain := g.results(), g.results(), someGiven().results()
	want(t, "arguments", g.whole(), before)
	parts := partsOf(reflect.ValueOf(g.art))
	parts = append(parts, partsOf(reflect.ValueOf(g.list))...)
	parts = append(parts, partsOf(reflect.ValueOf(g.r))...)
	for name, results := range first {
		want(t, name, results[len(results)-1], api.OK)
		want(t, name+" again", again[name], results)
		want(t, name+" without spare capacity", plain[name], results)
		for _, r := range slices.Concat(results, again[name]) {
			parts = append(parts, partsOf(reflect.ValueOf(r))...)
		}
	}
	if haveCommon(parts) {
		t.Error("a result shares memory")
	}
}

// Q3, C1: all functions with boards return the fault of CheckArt first; results are zero beside it.
func TestResultsBesideFaults(t *testing.T) {
	for _, b := range breaches() {
		g := someGiven()
		b.do(&g.art)
		for name, results := range g.results() {
			last := len(results) - 1
			want(t, name+": "+b.what, results[last], b.fault)
			for _, r := range results[:last] {
				if !isZero(r) {
					t.Errorf("%s: got %+v beside a fault", name, r)
				}
			}
		}
	}
}

// C1: the fault of a board comes before those of numbers, pins, layers and regions.
func TestBoardFirst(t *testing.T) {
	a := some()
	a.Bores[0].Size = 0
	for _, n := range []int{-1, 0, 99} {
		_, f := copper.PieceRegion(a, n)
		wantFault(t, "PieceRegion", f, api.ErrRange)
		_, f = copper.Touched(a, n)
		wantFault(t, "Touched", f, api.ErrRange)
		_, f = copper.With(a, n, []api.Rect{{}})
		wantFault(t, "With", f, api.ErrRange)
		_, f = copper.Without(a, n, []api.Rect{{}})
		wantFault(t, "Without", f, api.ErrRange)
	}
	for _, p := range pins("a.1 z.1") {
		_, _, f := copper.GroupOf(a, p)
		wantFault(t, "GroupOf", f, api.ErrRange)
		_, _, f = copper.Way(a, p, p)
		wantFault(t, "Way", f, api.ErrRange)
		_, f = copper.Bridges(a, p, p)
		wantFault(t, "Bridges", f, api.ErrRange)
	}
}

// Q4: nil and an empty list are the same.
func TestEmptyLists(t *testing.T) {
	g := given{kinds(), list("a:x"), api.Art{Coppers: make([][]api.Rect, 3)}, nil}
	empty := given{g.types, api.Netlist{Parts: g.list.Parts, Nets: []api.Net{}}, api.Art{Coppers: [][]api.Rect{{}, {}, {}}, Outline: []api.Rect{}, Bores: []api.Bore{}, Lands: []api.Land{}}, []api.Rect{}}
	for name, results := range empty.results() {
		want(t, name, results, g.results()[name])
	}
	wantFault(t, "no coppers", copper.CheckArt(api.Art{Coppers: [][]api.Rect{}}), api.ErrNone)
	wantFault(t, "nothing", copper.CheckArt(api.Art{}), api.ErrNone)
}

// Q1: there is a result for the strangest arguments.
func TestStrangeArguments(t *testing.T) {
	const low, high = math.MinInt, math.MaxInt
	long := strings.Repeat("x", 100000)
	boards := []api.Art{
		{}, some(), {Coppers: make([][]api.Rect, 100000)}, {Coppers: [][]api.Rect{make([]api.Rect, 100000)}}, {Coppers: [][]api.Rect{{rect(low, low, high, high)}}},
		{Coppers: make([][]api.Rect, 1), Outline: []api.Rect{rect(high, high, low, low)}},
		{Coppers: make([][]api.Rect, 1), Bores: make([]api.Bore, 100000)}, {Coppers: make([][]api.Rect, 1), Lands: make([]api.Land, 100000)},
		{Coppers: make([][]api.Rect, 1), Lands: []api.Land{{Part: long, Pin: long, Layer: high, At: api.Point{X: low, Y: high}}}},
		{Coppers: make([][]api.Rect, 1), Lands: []api.Land{{Part: "\xff", Pin: "\x00"}}},
	}
	for _, size := range []int{low, low + 1, -1, 0, 1, 2, high - 1, high} {
		for _, at := range []int{low, low + 1, -api.MaxAt, 0, api.MaxAt, high - 1, high} {
			b := bore(at, at, size, at, size)
			copper.Square(b)
			boards = append(boards, boardWith(b))
		}
	}
	for _, a := range boards {
		given{nil, api.Netlist{}, a, []api.Rect{{}}}.results()
		for _, n := range []int{low, -1, 0, 1, 100, high} {
			copper.PieceRegion(a, n)
			copper.Touched(a, n)
			copper.With(a, n, []api.Rect{rect(n, n, n, n)})
			copper.Without(a, n, make([]api.Rect, 100000))
		}
		for _, p := range []api.Pin{{}, {Part: long, Pin: long}, {Part: "\xff", Pin: "."}} {
			copper.GroupOf(a, p)
			copper.Way(a, p, p)
			copper.Bridges(a, p, pin("a.1"))
			copper.Compare([]api.PartType{{}}, api.Netlist{Nets: []api.Net{{Pins: []api.Pin{p}}}}, a)
		}
	}
}
