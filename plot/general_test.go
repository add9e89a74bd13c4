package plot

import (
	"fmt"
	"math"
	"reflect"
	"slices"
	"strings"
	"testing"

	"etchhouse/api"
)

// span is the memory of a slice, with its spare capacity.
type span struct{ from, to uintptr }

// spansOf returns the memory of all slices in a value.
func spansOf(v reflect.Value) []span {
	var l []span
	switch v.Kind() {
	case reflect.Slice:
		if size := uintptr(v.Cap()) * v.Type().Elem().Size(); size > 0 {
			l = append(l, span{v.Pointer(), v.Pointer() + size})
		}
		for i := range v.Len() {
			l = append(l, spansOf(v.Index(i))...)
		}
	case reflect.Struct:
		for i := range v.NumField() {
			l = append(l, spansOf(v.Field(i))...)
		}
	}
	return l
}

func spansOfAll(values []any) []span {
	var l []span
	for _, v := range values {
		l = append(l, spansOf(reflect.ValueOf(v))...)
	}
	return l
}

// haveCommon says whether two of some spans have memory in common.
func haveCommon(l []span) bool {
	slices.SortFunc(l, func(a, b span) int { return int(a.from) - int(b.from) })
	for i := 1; i < len(l); i++ {
		if l[i].from < l[i-1].to {
			return true
		}
	}
	return false
}

// roomy copies a value in depth; all its slices get spare capacity, in which something stands.
func roomy(v reflect.Value) reflect.Value {
	out := reflect.New(v.Type()).Elem()
	switch v.Kind() {
	case reflect.Slice:
		l := reflect.MakeSlice(v.Type(), v.Len()+3, v.Len()+3)
		for i := range v.Len() {
			l.Index(i).Set(roomy(v.Index(i)))
		}
		for i := v.Len(); i < l.Len() && v.Len() > 0; i++ {
			l.Index(i).Set(roomy(v.Index(0)))
		}
		out.Set(l.Slice(0, v.Len()))
	case reflect.Struct:
		for i := range v.NumField() {
			out.Field(i).Set(roomy(v.Field(i)))
		}
	default:
		out.Set(v)
	}
	return out
}

// allOf shows a value with all that stands in spare capacity.
func allOf(v reflect.Value) string {
	switch v.Kind() {
	case reflect.Slice:
		s := fmt.Sprint(v.Len(), "[")
		for i := range v.Cap() {
			s += allOf(v.Slice(0, v.Cap()).Index(i)) + " "
		}
		return s + "]"
	case reflect.Struct:
		s := "{"
		for i := range v.NumField() {
			s += allOf(v.Field(i)) + " "
		}
		return s + "}"
	}
	return fmt.Sprint(v)
}

// call is a function with its arguments.
type call struct {
	name string
	f    any
	args []any
}

func callsOfAll(t *testing.T) []call {
	t.Helper()
	const tools = "unit 2; tool t 0 0 1 1 1 1 2 2; tool u 0 0 2 2; use t; dark; clear; dark; move 1 1; move 0 0; line 4 0; line 4 0; "
	p := plotOf(t, tools+"repeat 2 1 6 0; flash 0 0; clear; area 0 0 1 0 1 1 0 1; dark; repeat 1 2 0 3; flash 1 1; done; done; area 0 0 5 0 5 5 0 5; area 0 0 5 0 5 5 0 5")
	q := plotOf(t, "unit 4; tool t 0 0 1 1; use t; flash 0 0; area 0 0 1 0 1 1 0 1")
	ring := without(t, regionOf(t, rect(0, 0, 9, 9)), rect(2, 2, 3, 3), rect(5, 5, 8, 8))
	return []call{
		{"CheckPlot", CheckPlot, []any{p}},
		{"Text", Text, []any{p}},
		{"Read", Read, []any{text(textOf(p))}},
		{"Image", Image, []any{p}},
		{"Flat", Flat, []any{p}},
		{"Scaled", Scaled, []any{p, 1}},
		{"Scaled by nothing", Scaled, []any{p, 2}},
		{"Moved", Moved, []any{p, point(4, -2)}},
		{"Moved by nothing", Moved, []any{p, point(0, 0)}},
		{"TurnedPlot", TurnedPlot, []any{p, api.Turn{Flip: true, Quarters: 3}}},
		{"TurnedPlot by nothing", TurnedPlot, []any{p, api.Turn{}}},
		{"Short", Short, []any{p}},
		{"Short of what is short", Short, []any{q}},
		{"Of", Of, []any{ring}},
		{"Joined", Joined, []any{p, q}},
		{"Joined with itself", Joined, []any{q, q}},
		{"Travel", Travel, []any{p}},
		{"Needless", Needless, []any{p}},
		{"Same", Same, []any{p, q}},
	}
}

// called calls a function, and returns its results.
func (c call) called(args []any) []any {
	var in []reflect.Value
	for _, a := range args {
		in = append(in, reflect.ValueOf(a))
	}
	var out []any
	for _, v := range reflect.ValueOf(c.f).Call(in) {
		out = append(out, v.Interface())
	}
	return out
}

// Q2: arguments stay, and with them what stands in their spare capacity, which is not read either; results are new memory. Q4: the same arguments have the same results.
func TestArgumentsAndResults(t *testing.T) {
	for _, c := range callsOfAll(t) {
		var args []any
		for _, a := range c.args {
			args = append(args, roomy(reflect.ValueOf(a)).Interface())
		}
		var before []string
		for _, a := range args {
			before = append(before, allOf(reflect.ValueOf(a)))
		}
		results := c.called(args)
		want(t, c.name, results[len(results)-1], api.OK)
		for i, a := range args {
			want(t, fmt.Sprint(c.name, ": argument ", i), allOf(reflect.ValueOf(a)), before[i])
		}
		again := c.called(c.args)
		want(t, c.name+" again", again, results)
		if haveCommon(slices.Concat(spansOfAll(args), spansOfAll(results), spansOfAll(again))) {
			t.Errorf("%s: a result shares memory", c.name)
		}
	}
}

// Q3: results are zero beside a fault.
func TestResultsBesideFaults(t *testing.T) {
	for _, c := range callsOfAll(t) {
		args := slices.Clone(c.args)
		switch c.name {
		case "Read":
			args[0] = "unit 1\n\n"
		case "Of":
			args[0] = []api.Rect{{}}
		default:
			args[0] = onlySteps(flash(0, 0), use(""))
		}
		results := c.called(args)
		last := len(results) - 1
		if results[last] == api.OK {
			t.Errorf("%s: no fault", c.name)
		}
		for i, r := range results[:last] {
			if c.name == "Read" && i == 1 {
				want(t, c.name, r, 2)
				continue
			}
			wantZero(t, c.name, r)
		}
	}
}

// Q1: there is a result for the strangest arguments.
func TestStrangeArguments(t *testing.T) {
	const low, high = math.MinInt, math.MaxInt
	long := strings.Repeat("x", 100000)
	loop := make([]api.PlotStep, 2)
	loop[0] = repeat(1, 1, 0, 0, loop...)
	loop[1] = dark()
	loop[0].Steps = loop
	strange := []api.PlotStep{
		{}, {Kind: low}, {Kind: high}, use(long), use(""), move(low, high), flash(high, low), line(low, low), area(), area(low, low, high, low, high, high, low, high),
		repeat(low, high, low, high), repeat(high, high, high, high, dark()), repeat(1, 1, low, high, dark()), repeat(100, 100, 0, 0, repeat(100, 100, 1, 1)),
	}
	for _, unit := range []int{low, -1, 0, 1, 1000, 1001, high} {
		for _, steps := range [][]api.PlotStep{nil, {}, strange, loop, nested(65000, flash(0, 0)), make([]api.PlotStep, 100000)} {
			strangeCalls(api.Plot{Unit: unit, Steps: steps})
		}
		for _, s := range strange {
			strangeCalls(api.Plot{Unit: unit, Tools: []api.PlotTool{tool("t", rect(0, 0, 1, 1))}, Steps: []api.PlotStep{use("t"), move(0, 0), s}})
		}
		for _, tools := range [][]api.PlotTool{{{}}, {tool(long, rect(0, 0, 1, 1))}, {tool("t", rect(low, low, high, high))}, {tool("t", make([]api.Rect, 100000)...)}, make([]api.PlotTool, 100000)} {
			strangeCalls(api.Plot{Unit: unit, Tools: tools})
		}
	}
	for _, r := range [][]api.Rect{nil, {}, {{}}, {rect(low, low, high, high)}, make([]api.Rect, 10000)} {
		Of(r)
	}
	for _, s := range []string{"", " ", "\n", long, long + long, "\x00\n", "unit", "unit \n", "unit 1\n ", "unit 1\narea\n", "unit 1\ntool\n", "unit 1\nrepeat\n", "unit 1\ndone\n", strings.Repeat("\n", 200000)} {
		Read(s)
	}
}

func strangeCalls(p api.Plot) {
	faultsOf(p, p)
	faultsOf(onlySteps(), p)
	for _, n := range []int{math.MinInt, -1, 0, 1, math.MaxInt} {
		Scaled(p, n)
		Moved(p, point(n, -n))
		TurnedPlot(p, api.Turn{Quarters: n, At: point(n, n)})
	}
}
