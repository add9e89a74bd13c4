package stack

import (
	"fmt"
	"math"
	"reflect"
	"slices"
	"strings"
	"testing"

	"etchhouse/api"
)

// given is all that functions of the package are called with.
type given struct {
	m     []api.Material
	s     []api.Layer
	l     []api.Through
	sizes []int
	text  string
}

func someGiven() given {
	return given{someMaterials(), kinds("ckcggckc"), spansOf("1-2 1-4"), []int{20, 30}, someText}
}

// roomy copies a list; there is spare capacity behind it, in which something stands.
func roomy[T any](l []T) []T {
	return append(slices.Clone(l), l...)[:len(l)]
}

func (g given) roomy() given {
	return given{roomy(g.m), roomy(g.s), roomy(g.l), roomy(g.sizes), g.text}
}

// whole shows all, with what stands in spare capacity.
func (g given) whole() string {
	return fmt.Sprint(g.m[:cap(g.m)], g.s[:cap(g.s)], g.l[:cap(g.l)], g.sizes[:cap(g.sizes)])
}

// results of all functions, the fault at last.
func (g given) results() map[string][]any {
	out := map[string][]any{}
	keep := func(name string) func(results ...any) {
		return func(results ...any) { out[name] = results }
	}
	keep("CheckMaterials")(CheckMaterials(g.m))
	keep("CheckStack")(CheckStack(g.m, g.s))
	keep("Thickness")(Thickness(g.m, g.s))
	keep("Depth")(Depth(g.m, g.s, "c2"))
	keep("Apart")(Apart(g.m, g.s, "c2", "c4"))
	keep("Mirrored")(Mirrored(g.m, g.s))
	keep("Bow")(Bow(g.m, g.s))
	keep("Nearest")(Nearest(g.m, g.s, 3, 900))
	keep("CheckSpans")(CheckSpans(g.m, g.s, g.l))
	keep("Presses")(Presses(g.m, g.s, g.l))
	keep("Cycles")(Cycles(g.m, g.s, g.l))
	keep("Reached")(Reached(g.m, g.s, g.l, "c2"))
	keep("Slim")(Slim(g.m, g.s, g.l, g.sizes, 10))
	keep("Fewest")(Fewest(g.m, g.s, g.l))
	keep("Fewest of no more")(Fewest(g.m, g.s, g.l[1:]))
	keep("Text")(Text(g.m, g.s))
	keep("Read")(Read(g.text))
	return out
}

// part is the memory of a slice, with its spare capacity.
type part struct{ from, to uintptr }

// partsOf returns the memory of all slices in a value.
func partsOf(v reflect.Value) []part {
	var l []part
	switch v.Kind() {
	case reflect.Interface:
		return partsOf(v.Elem())
	case reflect.Slice:
		if size := uintptr(v.Cap()) * v.Type().Elem().Size(); size > 0 {
			l = append(l, part{v.Pointer(), v.Pointer() + size})
		}
		for i := range v.Len() {
			l = append(l, partsOf(v.Index(i))...)
		}
	case reflect.Struct:
		for i := range v.NumField() {
			l = append(l, partsOf(v.Field(i))...)
		}
	}
	return l
}

// haveCommon says whether two slices of some results have memory in common.
func haveCommon(l []part) bool {
	slices.SortFunc(l, func(a, b part) int { return int(a.from) - int(b.from) })
	for i := 1; i < len(l); i++ {
		if l[i].from < l[i-1].to {
			return true
		}
	}
	return false
}

// Q2: arguments stay, and with them what stands in their spare capacity, which is not read either; results are new memory. Q4: the same arguments have the same results.
func TestArgumentsAndResults(t *testing.T) {
	g := someGiven().roomy()
	before := g.whole()
	first, again, plain := g.results(), g.results(), someGiven().results()
	want(t, "arguments", g.whole(), before)
	parts := partsOf(reflect.ValueOf(g))
	for name, results := range first {
		want(t, name, results[len(results)-1], api.OK)
		want(t, name+" again", again[name], results)
		want(t, name+" without spare capacity", plain[name], results)
		for _, r := range slices.Concat(results, again[name]) {
			parts = append(parts, partsOf(reflect.ValueOf(r))...)
		}
	}
	if haveCommon(parts) {
		t.Error("a result shares memory")
	}
}

// Q3: results are zero beside a fault.
func TestResultsBesideFaults(t *testing.T) {
	wrong := someGiven()
	wrong.m, wrong.text = append(wrong.m, api.Material{}), someText+"\n"
	for name, results := range wrong.results() {
		last := len(results) - 1
		if results[last] == api.OK {
			t.Errorf("%s: no fault", name)
		}
		for i, r := range results[:last] {
			if name == "Read" && i == 2 {
				want(t, name, r, 10)
			} else {
				wantZero(t, name, r)
			}
		}
	}
}

// Q4: nil and an empty list are the same.
func TestEmptyLists(t *testing.T) {
	g := given{m: someMaterials(), s: four()}
	empty := given{m: g.m, s: g.s, l: []api.Through{}, sizes: []int{}}
	for _, without := range []given{{}, {m: []api.Material{}, s: []api.Layer{}}} {
		wantFault(t, "no materials", CheckMaterials(without.m), api.OK)
		wantFault(t, "no layers", CheckStack(without.m, without.s), api.ErrForm)
		wantFault(t, "no layers", CheckStack(g.m, without.s), api.ErrForm)
		wantFault(t, "no materials", CheckStack(without.m, g.s), api.ErrNone)
	}
	for _, f := range []func(g given) (any, api.Fault){
		func(g given) (any, api.Fault) { l, f := Presses(g.m, g.s, g.l); return l, f },
		func(g given) (any, api.Fault) { l, f := Cycles(g.m, g.s, g.l); return l, f },
		func(g given) (any, api.Fault) { l, f := Reached(g.m, g.s, g.l, "c1"); return l, f },
		func(g given) (any, api.Fault) { l, f := Slim(g.m, g.s, g.l, g.sizes, 10); return l, f },
		func(g given) (any, api.Fault) { l, f := Fewest(g.m, g.s, g.l); return l, f },
	} {
		a, fault := f(g)
		wantFault(t, "nil", fault, api.OK)
		b, fault := f(empty)
		wantFault(t, "an empty list", fault, api.OK)
		want(t, "an empty list", b, a)
	}
}

// Q1: there is a result for the strangest arguments.
func TestStrangeArguments(t *testing.T) {
	const low, high = math.MinInt, math.MaxInt
	long := strings.Repeat("x", 100000)
	strange := []api.Material{{}, {Name: long, Kind: high, Thick: low, Grow: high}, {Name: "\xff", Kind: low, Thick: high, Grow: low}}
	stacks := [][]api.Layer{nil, {}, {{}}, make([]api.Layer, 100000), {{Name: long, Material: long}}, {{Name: "c1", Material: "c"}, {Name: long, Material: "k"}}, four()}
	spans := [][]api.Through{nil, {{}}, make([]api.Through, 100000), {{From: low, To: high}}, {{From: high, To: low}}, {{From: 1, To: high}}, {{From: low, To: low}}, {{From: high, To: high}}, spansOf("1-2 1-4")}
	for _, m := range [][]api.Material{nil, {{}}, strange, make([]api.Material, 100000), someMaterials()} {
		CheckMaterials(m)
		for _, s := range stacks {
			for _, l := range spans {
				otherwiseWrong(m, s, l)
				for _, n := range []int{low, -1, 0, 1, high} {
					Slim(m, s, l, slices.Repeat([]int{n}, len(l)), n)
					Nearest(m, s, n, n)
					Nearest(m, s, 8, n)
				}
				Reached(m, s, l, long)
			}
			Depth(m, s, long)
			Apart(m, s, "\x00", long)
		}
	}
	for _, s := range []string{"", " ", "\n", long[:50000], long, "\x00\n", "material", "material \n", "material     \n", "copper  \n", "layer \n", "layer", strings.Repeat(" ", 50000), strings.Repeat("\n", 50000)} {
		Read(s)
	}
}
