package route_test

import (
	"fmt"
	"math/rand/v2"
	"slices"
	"strings"
	"testing"

	"etchhouse/api"
	"etchhouse/route"
)

// blocking is a grid with just these cells blocked, in this order.
func blocking(w, h, layers int, blocked string) api.Grid {
	return api.Grid{W: w, H: h, Layers: layers, Blocked: cells(blocked)}
}

// U1: grids at each bound, and one past it.
func TestCheckGrid(t *testing.T) {
	const side, layers = api.MaxSide, api.MaxGridLayers
	many := func(n int) []api.Cell { return make([]api.Cell, n) }
	for _, c := range []struct {
		what string
		g    api.Grid
		want api.Fault
	}{
		{"one cell", empty(1, 1, 1), api.OK},
		{"the longest row", empty(side, 1, 1), api.OK},
		{"the longest column", empty(1, side, 1), api.OK},
		{"as many layers as can be", empty(1, 1, layers), api.OK},
		{"as many cells as can be", empty(side, side, 1), api.OK},
		{"as many cells as can be on all layers", empty(side, api.MaxCells/side/layers, layers), api.OK},
		{"all blocked", api.Grid{W: side, H: side, Layers: 1, Blocked: allCells(empty(side, side, 1))}, api.OK},
		{"no grid", api.Grid{}, api.ErrRange},
		{"no row", empty(0, 1, 1), api.ErrRange},
		{"no column", empty(1, 0, 1), api.ErrRange},
		{"no layer", empty(1, 1, 0), api.ErrRange},
		{"below 0", empty(-1, -1, 1), api.ErrRange},
		{"too long a row", empty(side+1, 1, 1), api.ErrRange},
		{"too long a column", empty(1, side+1, 1), api.ErrRange},
		{"too many layers", empty(1, 1, layers+1), api.ErrRange},
		{"a side before cells", empty(side, side, layers+1), api.ErrRange},
		{"too many cells", empty(side, side, 2), api.ErrLarge},
		{"a column too many", empty(side, 26, layers), api.ErrLarge},
		{"a side before blocked ones", api.Grid{W: 0, H: 1, Layers: 1, Blocked: many(api.MaxCells + 1)}, api.ErrRange},
		{"too many blocked", api.Grid{W: 1, H: 1, Layers: 1, Blocked: many(api.MaxCells + 1)}, api.ErrLarge},
		{"as many blocked as can be, one again and again", api.Grid{W: 1, H: 1, Layers: 1, Blocked: many(api.MaxCells)}, api.ErrOrder},
		{"some blocked", blocking(3, 2, 2, "2,0 0,1 1,0,1"), api.OK},
		{"all of some blocked", blocking(2, 2, 2, "0,0 1,0 0,1 1,1 0,0,1 1,0,1 0,1,1 1,1,1"), api.OK},
		{"X below 0", blocking(3, 2, 2, "-1,0"), api.ErrRange},
		{"Y below 0", blocking(3, 2, 2, "0,-1"), api.ErrRange},
		{"a layer below 0", blocking(3, 2, 2, "0,0,-1"), api.ErrRange},
		{"X too great", blocking(3, 2, 2, "3,0"), api.ErrRange},
		{"Y too great", blocking(3, 2, 2, "0,2"), api.ErrRange},
		{"a layer too great", blocking(3, 2, 2, "0,0,2"), api.ErrRange},
		{"one twice", blocking(3, 2, 2, "1,0 1,0"), api.ErrOrder},
		{"X falls", blocking(3, 2, 2, "1,0 0,0"), api.ErrOrder},
		{"Y falls", blocking(3, 2, 2, "0,1 2,0"), api.ErrOrder},
		{"the layer falls", blocking(3, 2, 2, "0,0,1 2,1,0"), api.ErrOrder},
		{"by X before Y", blocking(3, 2, 2, "0,0 0,1 1,0"), api.ErrOrder},
		{"no cell before the order", blocking(3, 2, 2, "1,0 -1,0"), api.ErrRange},
		{"the order before no cell", blocking(3, 2, 2, "1,0 1,0 9,0"), api.ErrOrder},
	} {
		wantFault(t, c.what, route.CheckGrid(c.g), c.want)
	}
}

// U1: costs at each bound, and one past it.
func TestCheckCosts(t *testing.T) {
	const most = api.MaxCost
	for _, c := range []struct {
		c    api.Costs
		want api.Fault
	}{
		{costs(1, 1, 0, 0), api.OK}, {costs(most, most, most, most), api.OK}, {api.Costs{}, api.ErrRange},
		{costs(0, 1, 0, 0), api.ErrRange}, {costs(1, 0, 0, 0), api.ErrRange}, {costs(1, 1, -1, 0), api.ErrRange}, {costs(1, 1, 0, -1), api.ErrRange},
		{costs(most+1, 1, 0, 0), api.ErrRange}, {costs(1, most+1, 0, 0), api.ErrRange}, {costs(1, 1, most+1, 0), api.ErrRange}, {costs(1, 1, 0, most+1), api.ErrRange},
		{costs(-1, 1, 0, 0), api.ErrRange}, {costs(1, -1, 0, 0), api.ErrRange},
	} {
		wantFault(t, fmt.Sprintf("%+v", c.c), route.CheckCosts(c.c), c.want)
	}
}

// U1: ways with each fault, of which the first one is told.
func TestCheckWay(t *testing.T) {
	g := drawn(".#. ... / ... .#.")
	for _, c := range []struct {
		way  string
		want api.Fault
	}{
		{"0,0", api.OK}, {"2,1,1", api.OK},
		{"0,0 0,1 1,1 2,1 2,0", api.OK}, {"0,0 0,0,1 1,0,1 2,0,1 2,0,0", api.OK},
		{"", api.ErrNone},
		{"3,0", api.ErrRange}, {"-1,0", api.ErrRange}, {"0,2", api.ErrRange}, {"0,-1", api.ErrRange}, {"0,0,2", api.ErrRange}, {"0,0,-1", api.ErrRange},
		{"0,0 -1,0", api.ErrRange}, {"2,1 3,1", api.ErrRange}, {"0,1 0,2", api.ErrRange}, {"0,0,1 0,0,2", api.ErrRange},
		{"1,0", api.ErrDenied}, {"1,1,1", api.ErrDenied}, {"0,0 1,0 2,0", api.ErrDenied}, {"1,1 1,1,1", api.ErrDenied},
		{"0,0 2,0", api.ErrForm}, {"0,0 1,1", api.ErrForm}, {"0,1 1,1,1", api.ErrDenied}, {"0,0 1,0,1", api.ErrForm}, {"0,0 0,1,1", api.ErrForm}, {"0,0 2,1,1", api.ErrForm},
		{"0,0 0,0", api.ErrForm}, {"0,1 2,1", api.ErrForm}, {"2,0,1 2,1,0", api.ErrForm},
		{"0,0 0,1 0,0", api.ErrTwice}, {"0,1 0,0 0,0,1 0,1,1 0,1", api.ErrTwice}, {"0,1 0,0 0,0,1 0,0", api.ErrTwice},
		{"0,0 3,0 1,0 9,9", api.ErrRange}, {"0,0 1,0 3,0", api.ErrDenied}, {"0,0 2,0 3,0", api.ErrForm}, {"0,0 0,1 0,0 3,0", api.ErrTwice}, {"0,0 0,1 0,0 1,0", api.ErrTwice},
		{"2,1 1,0", api.ErrDenied}, {"0,0 9,9", api.ErrRange}, {"0,0 0,1 1,1 0,0", api.ErrForm},
	} {
		wantFault(t, c.way, route.CheckWay(g, cells(c.way)), c.want)
	}
}

// U1: the longest way, and one that is longer.
func TestLongestWay(t *testing.T) {
	g := empty(api.MaxSide, api.MaxSide, 1)
	w := snake(api.MaxSide, api.MaxSide)
	want(t, "the longest way", len(w), api.MaxCells)
	wantFault(t, "the longest way", route.CheckWay(g, w), api.OK)
	wantFault(t, "a longer one", route.CheckWay(g, append(w, at("0,198"))), api.ErrLarge)
	wantFault(t, "a longer one of anything", route.CheckWay(g, make([]api.Cell, api.MaxCells+1)), api.ErrLarge)
	w[api.MaxCells-1] = w[api.MaxCells-3]
	wantFault(t, "the last cell twice", route.CheckWay(g, w), api.ErrTwice)
	w[0] = at("-1,0")
	wantFault(t, "the first cell is none", route.CheckWay(g, w), api.ErrRange)
}

// U1: random rows of cells hold against the model.
func TestCheckWayModel(t *testing.T) {
	told := map[api.Fault]int{}
	tried(t, 4000, func(rnd *rand.Rand) {
		g := randomGrid(rnd, 4, 2, 20, 8)
		w := []api.Cell{freeCells(g)[0]}
		for range rnd.IntN(7) {
			last := w[len(w)-1]
			switch n := neighbours(g, last); {
			case rnd.IntN(8) > 0 && len(n) > 0:
				w = append(w, n[rnd.IntN(len(n))])
			default:
				w = append(w, api.Cell{X: last.X + rnd.IntN(3) - 1, Y: last.Y + rnd.IntN(3) - 1, Layer: last.Layer + rnd.IntN(3) - 1})
			}
		}
		f := route.CheckWay(g, w)
		told[f]++
		wantFault(t, fmt.Sprintf("%+v %+v", g, w), f, checkWayModel(g, w))
	})
	for _, f := range []api.Fault{api.OK, api.ErrRange, api.ErrDenied, api.ErrForm, api.ErrTwice} {
		if told[f] < 10 {
			t.Errorf("fault %d: %d times", f, told[f])
		}
	}
}

// manyTasks have one pin each, in the first rows of a grid.
func manyTasks(many int) []api.Task {
	var out []api.Task
	for i := range many {
		out = append(out, api.Task{Net: fmt.Sprintf("n%03d", i), Pins: []api.Cell{{X: i % api.MaxSide, Y: i / api.MaxSide}}})
	}
	return out
}

// U4: tasks with each fault, of which the first one is told.
func TestCheckTasks(t *testing.T) {
	g := drawn(".#.. .... / .... ..#.")
	for _, c := range []struct {
		tasks string
		want  api.Fault
	}{
		{"a 0,0", api.OK}, {"a 0,0 3,1,1", api.OK}, {"a 0,0 2,0 | b 0,1 | c/d 1,1", api.OK}, {"A 0,0 | a 0,1 | a/a 2,0", api.OK}, {"a 3,0 2,0 | aa 1,1 0,1", api.OK},
		{"a? 0,0", api.ErrName}, {"/ 0,0", api.ErrName}, {"a/ 0,0", api.ErrName}, {"a.b 0,0", api.ErrName}, {"a", api.ErrNone},
		{"? -1,0", api.ErrName}, {"?", api.ErrName},
		{"a 4,0", api.ErrRange}, {"a -1,0", api.ErrRange}, {"a 0,2", api.ErrRange}, {"a 0,-1", api.ErrRange}, {"a 0,0,2", api.ErrRange}, {"a 0,0,-1", api.ErrRange},
		{"a 1,0", api.ErrDenied}, {"a 2,1,1", api.ErrDenied}, {"a 0,0 0,0", api.ErrTwice}, {"a 0,0 0,1 0,0", api.ErrTwice},
		{"a 0,0 4,0 1,0 0,0", api.ErrRange}, {"a 0,0 1,0 0,0 4,0", api.ErrDenied}, {"a 0,0 0,0 1,0", api.ErrTwice}, {"a 1,0 9,9", api.ErrDenied},
		{"b 0,0 | c 0,1 0,0", api.ErrTwice}, {"b 0,0 | c 0,1 | d 1,1 0,0", api.ErrTwice}, {"b 0,0 | c 0,0 1,0", api.ErrDenied}, {"b 0,0 | c 0,0 0,1 0,1", api.ErrTwice},
		{"b 0,0 | b 0,1", api.ErrOrder}, {"b 0,0 | a 0,1", api.ErrOrder}, {"b 0,0 | B 0,1", api.ErrOrder}, {"ab 0,0 | a/b 0,1", api.ErrOrder},
		{"b 0,0 | b 0,0", api.ErrTwice}, {"b 0,0 | a 1,0", api.ErrDenied}, {"b 0,0 | a", api.ErrNone}, {"b 0,0 | a 0,1 | ? 0,0", api.ErrOrder}, {"b 0,0 | ? 0,0", api.ErrName},
	} {
		wantFault(t, c.tasks, route.CheckTasks(g, tasks(c.tasks)), c.want)
	}
	wantFault(t, "no tasks", route.CheckTasks(g, nil), api.OK)
	wantFault(t, "no name", route.CheckTasks(g, []api.Task{{Pins: cells("0,0")}}), api.ErrName)
}

// U4: as many tasks, and as many pins of one, as can be, and one more.
func TestMostTasks(t *testing.T) {
	g := empty(api.MaxSide, 2, 1)
	wantFault(t, "as many tasks as can be", route.CheckTasks(g, manyTasks(api.MaxTasks)), api.OK)
	wantFault(t, "one more", route.CheckTasks(g, manyTasks(api.MaxTasks+1)), api.ErrLarge)
	wantFault(t, "one more, of nothing", route.CheckTasks(g, make([]api.Task, api.MaxTasks+1)), api.ErrLarge)
	pins := allCells(g)
	one := func(many int, more ...api.Cell) []api.Task {
		return []api.Task{{Net: "a", Pins: slices.Concat(pins[:many], more)}}
	}
	wantFault(t, "as many pins as can be", route.CheckTasks(g, one(api.MaxPins)), api.OK)
	wantFault(t, "one more", route.CheckTasks(g, one(api.MaxPins+1)), api.ErrLarge)
	wantFault(t, "one more before no cell", route.CheckTasks(g, one(0, make([]api.Cell, api.MaxPins+1)...)), api.ErrLarge)
	long := strings.Repeat("x", api.MaxName)
	path := strings.Repeat(long+"/", 4) + strings.Repeat("x", api.MaxPath-4*(api.MaxName+1))
	wantFault(t, "a long name", route.CheckTasks(g, []api.Task{{Net: path, Pins: pins[:1]}}), api.OK)
	wantFault(t, "a longer name", route.CheckTasks(g, []api.Task{{Net: path + "x", Pins: pins[:1]}}), api.ErrName)
}
