package route_test

import (
	"fmt"
	"math/rand/v2"
	"reflect"
	"slices"
	"strconv"
	"strings"
	"testing"

	"etchhouse/api"
)

func wantFault(t *testing.T, what string, got, want api.Fault) {
	t.Helper()
	if got != want {
		t.Errorf("%.2000s: fault %d, want %d", what, got, want)
	}
}

// want holds results against each other; nil and an empty list are the same.
func want(t *testing.T, what string, got, want any) {
	t.Helper()
	if want == nil {
		want = []int{}
	}
	if g, w := fmt.Sprintf("%+v", got), fmt.Sprintf("%+v", want); g != w {
		t.Errorf("%.5000s:\ngot  %.2000s\nwant %.2000s", what, g, w)
	}
}

// wantGood holds a result that comes without a fault.
func wantGood(t *testing.T, what string, got any, f api.Fault, wanted any) {
	t.Helper()
	wantFault(t, what, f, api.OK)
	want(t, what, got, wanted)
}

// wantFound holds a result that comes without a fault, and with true.
func wantFound(t *testing.T, what string, got any, ok bool, f api.Fault, wanted any) {
	t.Helper()
	want(t, what, ok, true)
	wantGood(t, what, got, f, wanted)
}

// wantNone holds a result that comes without a fault, and with false.
func wantNone(t *testing.T, what string, got any, ok bool, f api.Fault) {
	t.Helper()
	want(t, what, ok, false)
	wantFault(t, what, f, api.OK)
	if !isZero(got) {
		t.Errorf("%.2000s: got %.500s beside false", what, fmt.Sprintf("%+v", got))
	}
}

// wantWrong holds a fault, and that the results that come with it are zero.
func wantWrong(t *testing.T, what string, f, wanted api.Fault, got ...any) {
	t.Helper()
	wantFault(t, what, f, wanted)
	for _, one := range got {
		if !isZero(one) {
			t.Errorf("%.2000s: got %.500s beside a fault", what, fmt.Sprintf("%+v", one))
		}
	}
}

func isZero(got any) bool {
	switch v := reflect.ValueOf(got); v.Kind() {
	case reflect.Slice:
		return v.Len() == 0
	case reflect.Struct:
		for i := range v.NumField() {
			if !isZero(v.Field(i).Interface()) {
				return false
			}
		}
		return true
	default:
		return v.IsZero()
	}
}

// tried calls a function many times with a source of numbers.
func tried(t *testing.T, times int, f func(rnd *rand.Rand)) {
	t.Helper()
	rnd := rand.New(rand.NewPCG(7, 7))
	for range times {
		if f(rnd); t.Failed() {
			return
		}
	}
}

// at reads X,Y or X,Y,L.
func at(word string) api.Cell {
	var n [3]int
	for i, one := range strings.Split(word, ",") {
		number, err := strconv.Atoi(one)
		if err != nil {
			panic(err)
		}
		n[i] = number
	}
	return api.Cell{X: n[0], Y: n[1], Layer: n[2]}
}

// cells reads "X,Y X,Y,L ..".
func cells(text string) []api.Cell {
	var out []api.Cell
	for _, word := range strings.Fields(text) {
		out = append(out, at(word))
	}
	return out
}

// ways reads "X,Y X,Y ; X,Y ..".
func ways(text string) [][]api.Cell {
	var out [][]api.Cell
	for _, w := range strings.Split(text, ";") {
		out = append(out, cells(w))
	}
	return out
}

// drawn reads ".#. ... / ... ...": the rows of each layer, from Y 0 on, in which # is blocked.
func drawn(text string) api.Grid {
	var g api.Grid
	for layer, rows := range strings.Split(text, "/") {
		g.Layers++
		for y, row := range strings.Fields(rows) {
			g.W, g.H = len(row), max(g.H, y+1)
			for x := range len(row) {
				if row[x] == '#' {
					g.Blocked = append(g.Blocked, api.Cell{X: x, Y: y, Layer: layer})
				}
			}
		}
	}
	return g
}

// empty is a grid without blocked cells.
func empty(w, h, layers int) api.Grid {
	return api.Grid{W: w, H: h, Layers: layers}
}

func costs(step, via, turn, against int) api.Costs {
	return api.Costs{Step: step, Via: via, Turn: turn, Against: against}
}

// plain are the least costs that there are.
func plain() api.Costs {
	return costs(1, 1, 0, 0)
}

// lines of a text with | between; an empty text has none.
func lines(text string) []string {
	if text == "" {
		return nil
	}
	return strings.Split(text, "|")
}

// tasks reads "NET X,Y X,Y | NET ..".
func tasks(text string) []api.Task {
	var out []api.Task
	for _, line := range lines(text) {
		net, pins, _ := strings.Cut(strings.TrimSpace(line), " ")
		out = append(out, api.Task{Net: net, Pins: cells(pins)})
	}
	return out
}

// routed reads "NET X,Y X,Y ; X,Y X,Y | NET ..".
func routed(text string) []api.Routed {
	var out []api.Routed
	for _, line := range lines(text) {
		net, rest, _ := strings.Cut(strings.TrimSpace(line), " ")
		one := api.Routed{Net: net}
		if rest != "" {
			one.Ways = ways(rest)
		}
		out = append(out, one)
	}
	return out
}

func rect(x0, y0, x1, y1 int) api.Rect {
	return api.Rect{X0: x0, Y0: y0, X1: x1, Y1: y1}
}

func point(x, y int) api.Point {
	return api.Point{X: x, Y: y}
}

// snake is a way through all cells of a layer, along its rows.
func snake(w, h int) []api.Cell {
	var out []api.Cell
	for y := range h {
		row := make([]api.Cell, 0, w)
		for x := range w {
			row = append(row, api.Cell{X: x, Y: y})
		}
		if y%2 == 1 {
			slices.Reverse(row)
		}
		out = append(out, row...)
	}
	return out
}

// roomy copies a list; there is spare capacity behind it, in which something stands.
func roomy[T any](l []T) []T {
	return append(slices.Clone(l), l...)[:len(l)]
}
