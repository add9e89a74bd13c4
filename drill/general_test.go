package drill_test

import (
	"fmt"
	"math"
	"reflect"
	"slices"
	"strings"
	"testing"

	"etchhouse/api"
	"etchhouse/drill"
)

// given is all that functions of the package are called with.
type given struct {
	t             []api.Bit
	l             []api.Hole
	j, b          []api.Job
	p             []api.Point
	from          api.Point
	near, below   int
	speed, change int
	text          string
}

func someGiven() given {
	return given{
		t:    bits("a 10 2 3 | b 20 1 9 | c 20 5 1"),
		l:    holes("0,0,9,1 5,5,21,150,p 0,0,10,3 7,0,500,9"),
		j:    jobs("b 1,1,20,100 2,2,20,100 | a 3,3,10,50 3,3,10,50 4,9,10,7"),
		b:    jobs("c | a 3,3,10,50 4,9,10,7 3,3,10,50 | b 2,2,20,100 1,1,20,100"),
		p:    points("5,0 1,0 2,3 5,0"),
		from: point(-1, 2), near: 3, below: 9, speed: 4, change: 30,
		text: "tool a 10 2 3\ntool b 20 1 9\njob b\nhole 1 -1 20 100 p\njob a\nhole 1 2 3 4 -\n",
	}
}

func (g given) roomy() given {
	g.t, g.l, g.p, g.j, g.b = roomy(g.t), roomy(g.l), roomy(g.p), roomy(g.j), roomy(g.b)
	for _, j := range [][]api.Job{g.j, g.b} {
		for i := range j {
			j[i].Holes = roomy(j[i].Holes)
		}
	}
	return g
}

// results of all functions, the fault at last.
func (g given) results() map[string][]any {
	out := map[string][]any{}
	keep := func(name string) func(results ...any) {
		return func(results ...any) { out[name] = results }
	}
	keep("CheckHoles")(drill.CheckHoles(g.l))
	keep("CheckTools")(drill.CheckTools(g.t))
	keep("Sizes")(drill.Sizes(g.l))
	keep("Chosen")(drill.Chosen(g.t, g.l, g.near))
	keep("CheckJobs")(drill.CheckJobs(g.t, g.j))
	keep("Repeated")(drill.Repeated(g.l))
	keep("Near")(drill.Near(g.l, g.below))
	keep("Way")(drill.Way(g.p, g.from))
	keep("Greedy")(drill.Greedy(g.p, g.from))
	keep("Better")(drill.Better(g.p, g.from))
	keep("Shortest")(drill.Shortest(g.p, g.from))
	keep("Changes")(drill.Changes(g.t, g.j))
	keep("Seconds")(drill.Seconds(g.t, g.j, g.from, g.speed, g.change))
	keep("Text")(drill.Text(g.t, g.j))
	keep("Read")(drill.Read(g.text))
	keep("Same")(drill.Same(g.t, g.j, g.b))
	return out
}

// whole shows all slices in a value, with what stands in spare capacity.
func whole(v reflect.Value) string {
	switch v.Kind() {
	case reflect.Slice:
		var out strings.Builder
		v = v.Slice(0, v.Cap())
		for i := range v.Len() {
			fmt.Fprint(&out, whole(v.Index(i)), ";")
		}
		return out.String()
	case reflect.Struct:
		var out strings.Builder
		for i := range v.NumField() {
			fmt.Fprint(&out, whole(v.Field(i)), ",")
		}
		return out.String()
	}
	return fmt.Sprint(v)
}

// part is the memory of a slice, with its spare capacity.
type part struct{ from, to uintptr }

// partsOf returns the memory of all slices in a value.
func partsOf(v reflect.Value) []part {
	var l []part
	switch v.Kind() {
	case reflect.Interface:
		return partsOf(v.Elem())
	case reflect.Slice:
		if size := uintptr(v.Cap()) * v.Type().Elem().Size(); size > 0 {
			l = append(l, part{v.Pointer(), v.Pointer() + size})
		}
		for i := range v.Len() {
			l = append(l, partsOf(v.Index(i))...)
		}
	case reflect.Struct:
		for i := range v.NumField() {
			l = append(l, partsOf(v.Field(i))...)
		}
	}
	return l
}

// haveCommon says whether two slices have memory in common.
func haveCommon(l []part) bool {
	slices.SortFunc(l, func(a, b part) int { return int(a.from) - int(b.from) })
	for i := 1; i < len(l); i++ {
		if l[i].from < l[i-1].to {
			return true
		}
	}
	return false
}

// Q2: arguments stay, and with them what stands in their spare capacity, which is not read either; results are new memory. Q4: the same arguments have the same results.
func TestArgumentsAndResults(t *testing.T) {
	g := someGiven().roomy()
	before := whole(reflect.ValueOf(g))
	first, again, plain := g.results(), g.results(), someGiven().results()
	want(t, "arguments", whole(reflect.ValueOf(g)), before)
	parts := partsOf(reflect.ValueOf(g))
	for name, results := range first {
		want(t, name, results[len(results)-1], api.OK)
		want(t, name+" again", again[name], results)
		want(t, name+" without spare capacity", plain[name], results)
		for _, r := range slices.Concat(results, again[name]) {
			parts = append(parts, partsOf(reflect.ValueOf(r))...)
		}
	}
	if haveCommon(parts) {
		t.Error("a result shares memory")
	}
}

// breach makes a fault of some functions; it stays if others are made before it.
type breach struct {
	what  string
	fault api.Fault
	of    string
	do    func(g *given)
}

const (
	withTools = "CheckTools Chosen CheckJobs Changes Seconds Text Same"
	withList  = "CheckHoles Sizes Chosen Repeated Near"
	withJobs  = "CheckJobs Changes Seconds Text Same"
	withWay   = "Way Greedy Better Shortest"
	withTour  = "Greedy Better Shortest"
)

// breaches are all faults in the order in which the chapter lists them.
func breaches() []breach {
	return slices.Concat(breachesOfTools(), breachesOfHoles(), breachesOfJobs(), breachesOfPoints(), breachesOfText())
}

func breachesOfTools() []breach {
	return []breach{
		{"too many tools", api.ErrLarge, withTools, func(g *given) { g.t = append(g.t, make([]api.Bit, api.MaxBits)...) }},
		{"a name", api.ErrName, withTools, func(g *given) { g.t[0].Name = "a/b" }},
		{"a size", api.ErrRange, withTools, func(g *given) { g.t[0].Size = 0 }},
		{"a life", api.ErrRange, withTools, func(g *given) { g.t[0].Life = 0 }},
		{"a stack", api.ErrRange, withTools, func(g *given) { g.t[0].Stack = -1 }},
		{"a later name", api.ErrName, withTools, func(g *given) { g.t[1].Name = "" }},
		{"a later size", api.ErrRange, withTools, func(g *given) { g.t[1].Size = api.MaxHoleSize + 1 }},
		{"no order of tools", api.ErrOrder, withTools, func(g *given) { g.t[1].Name = "A" }},
		{"a last life", api.ErrRange, withTools, func(g *given) { g.t[2].Life = api.MaxHoles + 1 }},
	}
}

func breachesOfHoles() []breach {
	return []breach{
		{"too many holes", api.ErrLarge, withList, func(g *given) { g.l = append(g.l, make([]api.Hole, api.MaxHoles)...) }},
		{"X", api.ErrRange, withList, func(g *given) { g.l[0].At.X = api.MaxAt + 1 }},
		{"Y", api.ErrRange, withList, func(g *given) { g.l[1].At.Y = -api.MaxAt - 1 }},
		{"Size", api.ErrRange, withList, func(g *given) { g.l[2].Size = 0 }},
		{"Depth", api.ErrRange, withList, func(g *given) { g.l[3].Depth = api.MaxDeep + 1 }},
		{"near", api.ErrRange, "Chosen", func(g *given) { g.near = -1 }},
		{"below", api.ErrRange, "Near", func(g *given) { g.below = api.MaxHoleSize + 1 }},
	}
}

func breachesOfJobs() []breach {
	return []breach{
		{"too many jobs", api.ErrLarge, withJobs, func(g *given) { g.j = append(g.j, make([]api.Job, api.MaxBits)...) }},
		{"no such tool", api.ErrNone, withJobs, func(g *given) { g.j[0].Tool = "bb" }},
		{"too many holes of a job", api.ErrLarge, withJobs, func(g *given) { g.j[0].Holes = append(g.j[0].Holes, make([]api.Hole, api.MaxHoles)...) }},
		{"a hole of a job", api.ErrRange, withJobs, func(g *given) { g.j[0].Holes[1].Depth = 0 }},
		{"no such later tool", api.ErrNone, withJobs, func(g *given) { g.j[1].Tool = "" }},
		{"a tool twice", api.ErrTwice, withJobs, func(g *given) { g.j[1].Tool = "b" }},
		{"a hole of a later job", api.ErrRange, withJobs, func(g *given) { g.j[1].Holes[0].Size = -1 }},
		{"too many holes together", api.ErrLarge, withJobs, func(g *given) { g.j[1].Holes = append(g.j[1].Holes, row(api.MaxHoles-3)...) }},
		{"too many other jobs", api.ErrLarge, "Same", func(g *given) { g.b = append(g.b, make([]api.Job, api.MaxBits)...) }},
		{"no such tool of another job", api.ErrNone, "Same", func(g *given) { g.b[0].Tool = "?" }},
		{"a tool of other jobs twice", api.ErrTwice, "Same", func(g *given) { g.b[1].Tool = g.b[0].Tool }},
		{"a hole of another job", api.ErrRange, "Same", func(g *given) { g.b[1].Holes[2].At.X = math.MinInt }},
		{"too many holes of other jobs together", api.ErrLarge, "Same", func(g *given) { g.b[2].Holes = append(g.b[2].Holes, row(api.MaxHoles-4)...) }},
		{"too few bits", api.ErrNone, "Changes Seconds", func(g *given) { g.t[0].Stack = min(g.t[0].Stack, 1) }},
	}
}

func breachesOfPoints() []breach {
	return []breach{
		{"too many points", api.ErrLarge, withWay, func(g *given) { g.p = append(g.p, make([]api.Point, api.MaxHoles)...) }},
		{"too many points of an order", api.ErrLarge, withTour, func(g *given) { g.p = append(g.p, make([]api.Point, api.MaxTour)...) }},
		{"too many points for all orders", api.ErrLarge, "Shortest", func(g *given) { g.p = append(g.p, make([]api.Point, api.MaxExact)...) }},
		{"from", api.ErrRange, withWay + " Seconds", func(g *given) { g.from.X = api.MaxAt + 1 }},
		{"a point", api.ErrRange, withWay, func(g *given) { g.p[3].Y = -api.MaxAt - 1 }},
		{"speed", api.ErrRange, "Seconds", func(g *given) { g.speed = 0 }},
		{"change", api.ErrRange, "Seconds", func(g *given) { g.change = -1 }},
	}
}

func breachesOfText() []breach {
	return []breach{
		{"too long a text", api.ErrLarge, "Read", func(g *given) { g.text += strings.Repeat("x", api.MaxDrillText) }},
		{"no line", api.ErrSyntax, "Read", func(g *given) { g.text += "x" }},
		{"a tool of the text", api.ErrName, "Read", func(g *given) { g.text = strings.Replace(g.text, "tool a", "tool /", 1) }},
	}
}

// Q3: of two faults of a function the one that the chapter lists first is told; results are zero beside it. So all functions take what others before them check, in its order.
func TestOrderOfFaults(t *testing.T) {
	for i, first := range breaches() {
		for j, second := range breaches() {
			if j < i {
				continue
			}
			g := someGiven()
			if second.do(&g); i != j {
				first.do(&g)
			}
			for name, results := range g.results() {
				expected := api.OK
				switch {
				case slices.Contains(strings.Fields(first.of), name):
					expected = first.fault
				case slices.Contains(strings.Fields(second.of), name):
					expected = second.fault
				}
				what := name + ": " + first.what + ", " + second.what
				last := len(results) - 1
				want(t, what, results[last], expected)
				if name == "Read" && expected == api.ErrSyntax {
					want(t, what, results[2], 7)
					results[2] = 0
				}
				if expected != api.OK {
					wantWrong(t, what, expected, expected, results[:last]...)
				}
			}
		}
	}
}

// Q4: nil and an empty list are the same.
func TestEmptyLists(t *testing.T) {
	g := given{speed: 1}
	other := given{t: []api.Bit{}, l: []api.Hole{}, j: []api.Job{}, b: []api.Job{}, p: []api.Point{}, speed: 1}
	for name, results := range other.results() {
		want(t, name, results, g.results()[name])
		want(t, name, results[len(results)-1], api.OK)
	}
	g = given{t: bits("a 1 1 1"), j: []api.Job{{Tool: "a"}}, speed: 1}
	other = given{t: g.t, j: []api.Job{{Tool: "a", Holes: []api.Hole{}}}, b: g.j, speed: 1}
	for name, results := range other.results() {
		want(t, name, results, g.results()[name])
		want(t, name, results[len(results)-1], api.OK)
	}
}

// Q1: there is a result for the strangest arguments.
func TestStrangeArguments(t *testing.T) {
	const low, high = math.MinInt, math.MaxInt
	long := strings.Repeat("x", 100000)
	tools := [][]api.Bit{nil, {{}}, make([]api.Bit, 100000), {{Name: long, Size: low, Life: high, Stack: low}}, {{Name: "a", Size: high, Life: low, Stack: high}}, {{Name: "a", Size: 1, Life: 1, Stack: 1}, {Name: "\xff", Size: 1, Life: 1}}, bits("a 1 1 1 | b 2 2 2")}
	lists := [][]api.Hole{nil, {{}}, make([]api.Hole, 100000), {{At: point(low, high), Size: low, Depth: high}}, {{At: point(high, low), Size: high, Depth: low}, {At: point(low, low), Size: 1, Depth: 1}}, row(5)}
	ways := [][]api.Point{nil, {{}}, make([]api.Point, 100000), {point(low, high), point(high, low), point(low, low)}, points("1,1 2,2 1,1")}
	for _, bits := range tools {
		for _, l := range lists {
			for i, n := range []int{low, -1, 0, 1, high} {
				for _, j := range [][]api.Job{nil, {{Holes: l}}, {{Tool: long, Holes: l}}, {{Tool: "a", Holes: l}, {Tool: "b", Holes: l}}, make([]api.Job, 100000)} {
					given{t: bits, l: l, j: j, b: j, p: ways[i], from: point(n, -n), near: n, below: n, speed: n, change: n, text: long}.results()
					given{t: bits, l: l, j: j, b: j, p: ways[i], near: n, below: n, speed: 1, change: n}.results()
				}
			}
		}
	}
	for _, text := range []string{long, "\xff\n", "\x00", "\n", " \n", "tool\n", "tool    \n", "job\n", "job \n", "hole\n", "job a\nhole\n", "job a\nhole    \n", "job a\nhole     \n", "tool a" + strings.Repeat(" ", 100000) + "\n", "job a\nhole" + strings.Repeat(" 1", 100000) + "\n", strings.Repeat("\n", 1000), strings.Repeat("job a\n", 50000)} {
		drill.Read(text)
	}
}
