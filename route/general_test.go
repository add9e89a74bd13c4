package route_test

import (
	"fmt"
	"math"
	"reflect"
	"slices"
	"strings"
	"testing"

	"etchhouse/api"
	"etchhouse/route"
)

// given is all that functions of the package are called with.
type given struct {
	g            api.Grid
	c            api.Costs
	w            []api.Cell
	from, to     api.Cell
	most, tries  int
	pins         []api.Cell
	t            []api.Task
	r            []api.Routed
	at           api.Point
	pitch, width int
}

func someGiven() given {
	return given{
		g:    drawn("..#... ...... ...... / ...... .#.... ......"),
		c:    costs(1, 2, 1, 3),
		w:    cells("0,0 0,1 1,1 1,2 1,2,1 2,2,1 2,1,1"),
		from: at("0,0"), to: at("5,2,1"), most: 9, tries: 3,
		pins:  cells("0,0 5,0 5,2,1 0,2"),
		t:     tasks("a 0,0 1,0 | b 5,0 5,2 3,2 | c 4,1,1"),
		r:     routed("a 0,0 1,0 | b 5,0 5,1 5,2 ; 5,2 4,2 3,2 | c"),
		at:    point(-7, 9),
		pitch: 5, width: 3,
	}
}

func (g given) roomy() given {
	g.g.Blocked, g.w, g.pins, g.t, g.r = roomy(g.g.Blocked), roomy(g.w), roomy(g.pins), roomy(g.t), roomy(g.r)
	for i := range g.t {
		g.t[i].Pins = roomy(g.t[i].Pins)
	}
	for i := range g.r {
		g.r[i].Ways = roomy(g.r[i].Ways)
		for j, w := range g.r[i].Ways {
			g.r[i].Ways[j] = roomy(w)
		}
	}
	return g
}

// results of all functions, the fault at last.
func (g given) results() map[string][]any {
	out := map[string][]any{}
	keep := func(name string) func(results ...any) {
		return func(results ...any) { out[name] = results }
	}
	keep("CheckGrid")(route.CheckGrid(g.g))
	keep("CheckCosts")(route.CheckCosts(g.c))
	keep("CheckWay")(route.CheckWay(g.g, g.w))
	keep("CostOf")(route.CostOf(g.g, g.c, g.w))
	keep("Least")(route.Least(g.g, g.c, g.from, g.to))
	keep("Way")(route.Way(g.g, g.c, g.from, g.to))
	keep("Reach")(route.Reach(g.g, g.c, g.from, g.most))
	keep("Tree")(route.Tree(g.g, g.c, g.pins))
	keep("LeastTree")(route.LeastTree(g.g, g.c, g.pins))
	keep("CheckTasks")(route.CheckTasks(g.g, g.t))
	keep("Route")(route.Route(g.g, g.c, g.t, g.tries))
	keep("CheckRouted")(route.CheckRouted(g.g, g.t, g.r))
	keep("Total")(route.Total(g.g, g.c, g.t, g.r))
	keep("Blocked")(route.Blocked(g.g, g.t, g.r))
	keep("Shapes")(route.Shapes(g.g, g.w, g.at, g.pitch, g.width))
	keep("Text")(route.Text(g.r))
	return out
}

// whole shows all slices in a value, with what stands in spare capacity.
func whole(v reflect.Value) string {
	switch v.Kind() {
	case reflect.Slice:
		var out strings.Builder
		v = v.Slice(0, v.Cap())
		for i := range v.Len() {
			fmt.Fprint(&out, whole(v.Index(i)), ";")
		}
		return out.String()
	case reflect.Struct:
		var out strings.Builder
		for i := range v.NumField() {
			fmt.Fprint(&out, whole(v.Field(i)), ",")
		}
		return out.String()
	}
	return fmt.Sprint(v)
}

// part is the memory of a slice, with its spare capacity.
type part struct{ from, to uintptr }

// partsOf returns the memory of all slices in a value.
func partsOf(v reflect.Value) []part {
	var l []part
	switch v.Kind() {
	case reflect.Interface:
		return partsOf(v.Elem())
	case reflect.Slice:
		if size := uintptr(v.Cap()) * v.Type().Elem().Size(); size > 0 {
			l = append(l, part{v.Pointer(), v.Pointer() + size})
		}
		for i := range v.Len() {
			l = append(l, partsOf(v.Index(i))...)
		}
	case reflect.Struct:
		for i := range v.NumField() {
			l = append(l, partsOf(v.Field(i))...)
		}
	}
	return l
}

// haveCommon says whether two slices have memory in common.
func haveCommon(l []part) bool {
	slices.SortFunc(l, func(a, b part) int { return int(a.from) - int(b.from) })
	for i := 1; i < len(l); i++ {
		if l[i].from < l[i-1].to {
			return true
		}
	}
	return false
}

// Q2: arguments stay, and with them what stands in their spare capacity, which is not read either; results are new memory. Q4: the same arguments have the same results.
func TestArgumentsAndResults(t *testing.T) {
	g := someGiven().roomy()
	before := whole(reflect.ValueOf(g))
	first, again, plain := g.results(), g.results(), someGiven().results()
	want(t, "arguments", whole(reflect.ValueOf(g)), before)
	parts := partsOf(reflect.ValueOf(g))
	for name, results := range first {
		want(t, name, results[len(results)-1], api.OK)
		want(t, name+" again", again[name], results)
		want(t, name+" without spare capacity", plain[name], results)
		for _, r := range slices.Concat(results, again[name]) {
			parts = append(parts, partsOf(reflect.ValueOf(r))...)
		}
	}
	text, _ := route.Text(g.r)
	for range 2 {
		r, _, f := route.Read(text)
		wantFault(t, "Read", f, api.OK)
		parts = append(parts, partsOf(reflect.ValueOf(r))...)
	}
	if haveCommon(parts) {
		t.Error("a result shares memory")
	}
}

// breach makes a fault of some functions; it stays if others are made before it.
type breach struct {
	what  string
	fault api.Fault
	of    string
	do    func(g *given)
}

const (
	withGrid   = "CheckGrid CheckWay CostOf Least Way Reach Tree LeastTree CheckTasks Route CheckRouted Total Blocked Shapes"
	withCosts  = "CheckCosts CostOf Least Way Reach Tree LeastTree Route Total"
	withWay    = "CheckWay CostOf Shapes"
	withPins   = "Tree LeastTree"
	withTasks  = "CheckTasks Route CheckRouted Total Blocked"
	withRouted = "CheckRouted Total Blocked"
)

// breaches are all faults in the order in which the chapter lists them.
func breaches() []breach {
	return slices.Concat(breachesOfGrid(), breachesOfWay(), breachesOfPins(), breachesOfTasks(), breachesOfRouted())
}

func breachesOfGrid() []breach {
	return []breach{
		{"W", api.ErrRange, withGrid, func(g *given) { g.g.W = 0 }},
		{"H", api.ErrRange, withGrid, func(g *given) { g.g.H = api.MaxSide + 1 }},
		{"Layers", api.ErrRange, withGrid, func(g *given) { g.g.Layers = api.MaxGridLayers + 1 }},
		{"too many cells", api.ErrLarge, withGrid, func(g *given) { g.g.W, g.g.H = api.MaxSide, api.MaxSide }},
		{"too many blocked", api.ErrLarge, withGrid, func(g *given) { g.g.Blocked = append(g.g.Blocked, make([]api.Cell, api.MaxCells)...) }},
		{"no cell", api.ErrRange, withGrid, func(g *given) { g.g.Blocked[0].Y = -1 }},
		{"no order", api.ErrOrder, withGrid, func(g *given) { g.g.Blocked[1] = at("1,0,0") }},
		{"Step", api.ErrRange, withCosts, func(g *given) { g.c.Step = 0 }},
		{"Via", api.ErrRange, withCosts, func(g *given) { g.c.Via = 0 }},
		{"Turn", api.ErrRange, withCosts, func(g *given) { g.c.Turn = -1 }},
		{"Against", api.ErrRange, withCosts, func(g *given) { g.c.Against = api.MaxCost + 1 }},
	}
}

func breachesOfWay() []breach {
	return []breach{
		{"no way", api.ErrNone, withWay, func(g *given) { g.w = nil }},
		{"too long a way", api.ErrLarge, withWay, func(g *given) { g.w = append(g.w, make([]api.Cell, api.MaxCells)...) }},
		{"a cell of the way", api.ErrRange, withWay, func(g *given) { g.w[0].X = -1 }},
		{"a blocked cell of the way", api.ErrDenied, withWay, func(g *given) { g.w[1] = at("2,0") }},
		{"no neighbour", api.ErrForm, withWay, func(g *given) { g.w[2] = at("1,2") }},
		{"a cell twice", api.ErrTwice, withWay, func(g *given) { g.w[3] = at("0,1") }},
		{"at", api.ErrRange, "Shapes", func(g *given) { g.at.Y = -api.MaxAt - 1 }},
		{"pitch", api.ErrRange, "Shapes", func(g *given) { g.pitch = api.MaxPitch + 1 }},
		{"width", api.ErrRange, "Shapes", func(g *given) { g.width = 0 }},
		{"out of range", api.ErrRange, "Shapes", func(g *given) { g.at.X = api.MaxAt }},
		{"from is no cell", api.ErrRange, "Least Way Reach", func(g *given) { g.from.X = -1 }},
		{"to is no cell", api.ErrRange, "Least Way", func(g *given) { g.to.X = -1 }},
		{"from is blocked", api.ErrDenied, "Least Way Reach", func(g *given) { g.from = at("2,0") }},
		{"to is blocked", api.ErrDenied, "Least Way", func(g *given) { g.to = at("2,0") }},
		{"most", api.ErrRange, "Reach", func(g *given) { g.most = -1 }},
	}
}

func breachesOfPins() []breach {
	return []breach{
		{"no pins", api.ErrNone, withPins, func(g *given) { g.pins = nil }},
		{"too many pins", api.ErrLarge, withPins, func(g *given) { g.pins = append(g.pins, make([]api.Cell, api.MaxPins)...) }},
		{"too many exact pins", api.ErrLarge, "LeastTree", func(g *given) { g.pins = append(g.pins, cells("1,1 2,1 3,1")...) }},
		{"too large a grid", api.ErrLarge, "LeastTree", func(g *given) { g.g.W = 200 }},
		{"a pin", api.ErrRange, withPins, func(g *given) { g.pins[0].Layer = 2 }},
		{"a blocked pin", api.ErrDenied, withPins, func(g *given) { g.pins[1] = at("1,1,1") }},
		{"a pin twice", api.ErrTwice, withPins, func(g *given) { g.pins[3] = g.pins[2] }},
	}
}

func breachesOfTasks() []breach {
	return []breach{
		{"too many tasks", api.ErrLarge, withTasks, func(g *given) { g.t = append(g.t, make([]api.Task, api.MaxTasks)...) }},
		{"a name", api.ErrName, withTasks, func(g *given) { g.t[0].Net = "/" }},
		{"no pins of a task", api.ErrNone, withTasks, func(g *given) { g.t[0].Pins = nil }},
		{"too many pins of a task", api.ErrLarge, withTasks, func(g *given) { g.t[0].Pins = append(g.t[0].Pins, make([]api.Cell, api.MaxPins)...) }},
		{"a pin of a task", api.ErrRange, withTasks, func(g *given) { g.t[0].Pins[0].Y = 3 }},
		{"a blocked pin of a task", api.ErrDenied, withTasks, func(g *given) { g.t[0].Pins[1] = at("2,0") }},
		{"a pin of a task twice", api.ErrTwice, withTasks, func(g *given) { g.t[1].Pins[1] = g.t[1].Pins[0] }},
		{"a pin of an earlier task", api.ErrTwice, withTasks, func(g *given) { g.t[1].Pins[2] = at("1,0") }},
		{"no order of tasks", api.ErrOrder, withTasks, func(g *given) { g.t[1].Net = "a" }},
		{"a later name", api.ErrName, withTasks, func(g *given) { g.t[2].Net = "" }},
		{"tries", api.ErrRange, "Route", func(g *given) { g.tries = api.MaxTries + 1 }},
	}
}

func breachesOfRouted() []breach {
	return []breach{
		{"too much routed", api.ErrLarge, withRouted, func(g *given) { g.r = append(g.r, make([]api.Routed, api.MaxTasks)...) }},
		{"no such task", api.ErrNone, withRouted, func(g *given) { g.r[0].Net = "aa" }},
		{"too many ways", api.ErrLarge, withRouted, func(g *given) { g.r[0].Ways = append(g.r[0].Ways, make([][]api.Cell, api.MaxPins)...) }},
		{"an empty way", api.ErrNone, withRouted, func(g *given) { g.r[0].Ways = [][]api.Cell{nil} }},
		{"a cell of what is routed", api.ErrRange, withRouted, func(g *given) { g.r[0].Ways[0][0].X = -1 }},
		{"a blocked cell of what is routed", api.ErrDenied, withRouted, func(g *given) { g.r[0].Ways[0][1] = at("2,0") }},
		{"over another pin", api.ErrClash, withRouted, func(g *given) { g.r[0].Ways = append(g.r[0].Ways, cells("3,2 2,2")) }},
		{"not joined", api.ErrForm, withRouted, func(g *given) { g.r[0].Ways = append(g.r[0].Ways, cells("0,2,1")) }},
		{"no order of what is routed", api.ErrOrder, withRouted, func(g *given) { g.r[1].Net = "a" }},
		{"not joined later", api.ErrForm, withRouted, func(g *given) { g.r[1].Ways[1] = g.r[1].Ways[1][:2] }},
	}
}

// Q3: of two faults of a function the one that the chapter lists first is told; results are zero beside it. So all functions take what others before them check, in its order.
func TestOrderOfFaults(t *testing.T) {
	for i, first := range breaches() {
		for j, second := range breaches() {
			if j < i {
				continue
			}
			g := someGiven()
			if second.do(&g); i != j {
				first.do(&g)
			}
			for name, results := range g.results() {
				expected := api.OK
				switch words := strings.Fields(first.of); {
				case name == "Text":
					continue
				case slices.Contains(words, name):
					expected = first.fault
				case slices.Contains(strings.Fields(second.of), name):
					expected = second.fault
				}
				what := name + ": " + first.what + ", " + second.what
				last := len(results) - 1
				want(t, what, results[last], expected)
				if expected != api.OK {
					wantWrong(t, what, expected, expected, results[:last]...)
				}
			}
		}
	}
}

// Q4: nil and an empty list are the same.
func TestEmptyLists(t *testing.T) {
	g := given{g: empty(2, 1, 1), c: plain(), tries: 1, pitch: 1, width: 1, pins: cells("0,0"), w: cells("0,0"), t: tasks("a 0,0"), r: routed("a")}
	other := g
	other.g.Blocked, other.r = []api.Cell{}, []api.Routed{{Net: "a", Ways: [][]api.Cell{}}}
	for name, results := range other.results() {
		want(t, name, results, g.results()[name])
		want(t, name, results[len(results)-1], api.OK)
	}
	other.w, other.pins, other.t, other.r = []api.Cell{}, []api.Cell{}, []api.Task{}, []api.Routed{}
	g.w, g.pins, g.t, g.r = nil, nil, nil, nil
	for name, results := range other.results() {
		want(t, name, results, g.results()[name])
	}
}

// Q1: there is a result for the strangest arguments.
func TestStrangeArguments(t *testing.T) {
	const low, high = math.MinInt, math.MaxInt
	long := strings.Repeat("x", 100000)
	far := []api.Cell{{X: low, Y: low, Layer: low}, {X: high, Y: high, Layer: high}, {X: low, Y: high}, {}}
	grids := []api.Grid{{}, someGiven().g, empty(1, 1, 1), empty(low, low, low), empty(high, high, high), empty(high, 1, 1), empty(1<<32, 1<<32, 1), {W: 3, H: 3, Layers: 1, Blocked: far}, {W: 1, H: 1, Layers: 1, Blocked: cells("0,0")}, {W: 2, H: 2, Layers: 2, Blocked: make([]api.Cell, 100000)}}
	for _, grid := range grids {
		for _, c := range []api.Costs{{}, plain(), costs(low, high, low, high), costs(high, high, high, high), costs(1000, 1000, 1000, 1000)} {
			for _, l := range [][]api.Cell{nil, far, far[1:], far[3:], make([]api.Cell, 100000), cells("0,0 0,1 1,1 1,0")} {
				for _, n := range []int{low, -1, 0, 1, high} {
					g := given{grid, c, l, far[0], far[3], n, n, l, []api.Task{{Net: "a", Pins: l}}, []api.Routed{{Net: "a", Ways: [][]api.Cell{l, l}}, {Net: long}}, point(n, -n), n, n}
					g.results()
					g.t, g.r, g.from, g.to = []api.Task{{Net: long}, {Net: "\xff", Pins: l}}, make([]api.Routed, 1000), far[3], far[1]
					g.results()
					g.t, g.r, g.at, g.pitch, g.width = make([]api.Task, 1000), []api.Routed{{Net: "\x00", Ways: make([][]api.Cell, 1000)}}, point(0, high), 1, 1
					g.results()
				}
			}
		}
	}
	for _, text := range []string{long, "\xff\n", "\x00", "net a\n" + long, "net a\nway " + long + "\n", "net a\nway" + strings.Repeat(" ", 100000) + "\n", "net a\nway " + strings.Repeat(",", 100000) + "\n", strings.Repeat("\n", 1000)} {
		route.Read(text)
	}
}
