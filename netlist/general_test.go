package netlist

import (
	"fmt"
	"math"
	"reflect"
	"slices"
	"strings"
	"testing"

	"etchhouse/api"
)

// span is the memory of a slice, with its spare capacity.
type span struct{ from, to uintptr }

// spansOf returns the memory of all slices in a value.
func spansOf(v reflect.Value) []span {
	var l []span
	switch v.Kind() {
	case reflect.Slice:
		if size := uintptr(v.Cap()) * v.Type().Elem().Size(); size > 0 {
			l = append(l, span{v.Pointer(), v.Pointer() + size})
		}
		for i := range v.Len() {
			l = append(l, spansOf(v.Index(i))...)
		}
	case reflect.Struct:
		for i := range v.NumField() {
			l = append(l, spansOf(v.Field(i))...)
		}
	}
	return l
}

func spansOfAll(values []any) []span {
	var l []span
	for _, v := range values {
		l = append(l, spansOf(reflect.ValueOf(v))...)
	}
	return l
}

// overlap says whether two of some spans have memory in common.
func overlap(l []span) bool {
	slices.SortFunc(l, func(a, b span) int { return int(a.from) - int(b.from) })
	for i := 1; i < len(l); i++ {
		if l[i].from < l[i-1].to {
			return true
		}
	}
	return false
}

// roomy copies a value in depth; all its slices get spare capacity, in which something stands.
func roomy(v reflect.Value) reflect.Value {
	out := reflect.New(v.Type()).Elem()
	switch v.Kind() {
	case reflect.Slice:
		l := reflect.MakeSlice(v.Type(), v.Len()+3, v.Len()+3)
		for i := range v.Len() {
			l.Index(i).Set(roomy(v.Index(i)))
		}
		out.Set(l.Slice(0, v.Len()))
	case reflect.Struct:
		for i := range v.NumField() {
			out.Field(i).Set(roomy(v.Field(i)))
		}
	default:
		out.Set(v)
	}
	return out
}

// allOf shows a value with all that stands in spare capacity.
func allOf(v reflect.Value) string {
	switch v.Kind() {
	case reflect.Slice:
		s := fmt.Sprint(v.Len(), "[")
		for i := range v.Cap() {
			s += allOf(v.Slice(0, v.Cap()).Index(i)) + " "
		}
		return s + "]"
	case reflect.Struct:
		s := "{"
		for i := range v.NumField() {
			s += allOf(v.Field(i)) + " "
		}
		return s + "}"
	}
	return fmt.Sprint(v)
}

// call is a function with its arguments.
type call struct {
	name string
	f    any
	args []any
}

func callsOfAll() []call {
	types := someTypes()
	a := someList()
	b := list("C:c D/x:gate G:nc R:gate S:r | g C.k D/x.v | h G.g S.1 | n/1 D/x.a D/x.b R.a")
	parts, nets := same([]string{"C", "D/x", "E"}), same([]string{"g", "h"})
	return []call{
		{"CheckTypes", CheckTypes, []any{types}},
		{"CheckSheets", CheckSheets, []any{types, someSheets()}},
		{"Flat", Flat, []any{types, someSheets(), "b"}},
		{"CheckList", CheckList, []any{types, a}},
		{"NetOf", NetOf, []any{types, a, pin("E.b")}},
		{"Loose", Loose, []any{types, a}},
		{"Findings", Findings, []any{types, a}},
		{"Joined", Joined, []any{types, a, "h", "n/1"}},
		{"Without", Without, []any{types, a, []string{"E", "S"}}},
		{"Without none", Without, []any{types, a, []string{}}},
		{"Islands", Islands, []any{types, a, []string{"h"}}},
		{"Changes", Changes, []any{types, a, b}},
		{"Colours", Colours, []any{types, a}},
		{"Alike", Alike, []any{types, a, b}},
		{"Matched", Matched, []any{types, a, a}},
		{"CheckMatch", CheckMatch, []any{types, a, a, parts, nets}},
		{"Text", Text, []any{a}},
		{"Read", Read, []any{"part a r\npart b r\nnet n a.1 b.1\nnet o a.2\n"}},
	}
}

// called calls a function, and returns its results.
func (c call) called(args []any) []any {
	var in []reflect.Value
	for _, a := range args {
		in = append(in, reflect.ValueOf(a))
	}
	var out []any
	for _, v := range reflect.ValueOf(c.f).Call(in) {
		out = append(out, v.Interface())
	}
	return out
}

// Q2: arguments stay, and with them what stands in their spare capacity; results are new memory. Q4: the same arguments have the same results.
func TestArgumentsAndResults(t *testing.T) {
	for _, c := range callsOfAll() {
		var args []any
		for _, a := range c.args {
			args = append(args, roomy(reflect.ValueOf(a)).Interface())
		}
		var before []string
		for _, a := range args {
			before = append(before, allOf(reflect.ValueOf(a)))
		}
		results := c.called(args)
		want(t, c.name, results[len(results)-1], api.OK)
		for i, a := range args {
			want(t, fmt.Sprint(c.name, ": argument ", i), allOf(reflect.ValueOf(a)), before[i])
		}
		again := c.called(c.args)
		want(t, c.name+" again", again, results)
		if overlap(slices.Concat(spansOfAll(args), spansOfAll(results), spansOfAll(again))) {
			t.Errorf("%s: a result shares memory", c.name)
		}
	}
}

// Q3: results are zero beside a fault.
func TestResultsBesideFaults(t *testing.T) {
	for _, c := range callsOfAll() {
		args := slices.Clone(c.args)
		switch c.name {
		case "Text":
			args[0] = list("a:.")
		case "Read":
			args[0] = "part a r\n\n"
		default:
			args[0] = []api.PartType{{}}
		}
		results := c.called(args)
		last := len(results) - 1
		if results[last] == api.OK {
			t.Errorf("%s: no fault", c.name)
		}
		for i, r := range results[:last] {
			if c.name == "Read" && i == 1 {
				want(t, c.name, r, 2)
				continue
			}
			wantZero(t, c.name, r)
		}
	}
}

// Q1: there is a result for the strangest arguments.
func TestStrangeArguments(t *testing.T) {
	const low, high = math.MinInt, math.MaxInt
	long := strings.Repeat("x/", 100000)
	strange := []api.PartType{{Name: long, Pins: []api.PinType{{Name: "", Kind: low, Group: high}, {Kind: high, Group: low}}}, {}}
	sheet := api.Sheet{
		Ports: []string{"", long},
		Parts: make([]api.Part, 3),
		Uses:  make([]api.Use, 3),
		Nets:  []api.Net{{}, {Pins: make([]api.Pin, 2), Ports: []string{long}}, {}},
	}
	one := api.Netlist{Parts: sheet.Parts, Nets: sheet.Nets}
	for _, types := range [][]api.PartType{nil, {}, {{}}, strange, make([]api.PartType, 5000), someTypes()} {
		for _, x := range []api.Netlist{{}, {Parts: make([]api.Part, 1)}, {Nets: make([]api.Net, 1)}, one, {Parts: make([]api.Part, 5000), Nets: make([]api.Net, 5000)}, someList()} {
			for _, l := range [][]api.Sheet{nil, {{}}, {sheet}, {sheet, sheet}, make([]api.Sheet, 5000)} {
				faultsOf(types, l, x, x)
			}
			CheckMatch(types, x, x, make([]api.Pairing, 2), make([]api.Pairing, 2))
			NetOf(types, x, api.Pin{Part: long, Pin: "\x00"})
			Joined(types, x, long, "")
			Without(types, x, []string{"", long})
			Islands(types, x, []string{"\xff", ""})
			Text(x)
		}
	}
	for _, s := range []string{"", " ", "\n", long, "\x00\n", "net", "part", "net \n", "part  \n", "net n .\n"} {
		Read(s)
	}
}
