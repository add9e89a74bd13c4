package route_test

import (
	"fmt"
	"math/rand/v2"
	"slices"
	"strings"
	"testing"

	"etchhouse/api"
	"etchhouse/route"
)

// open is a grid of 5 by 5 cells.
const open = "..... ..... ..... ..... ....."

// U4: tasks of which all are routed, or some.
func TestRoute(t *testing.T) {
	const around = "0,2 0,1 0,0 1,0 2,0 3,0 4,0 4,1 4,2"
	for _, l := range []struct {
		what, grid, tasks string
		tries             int
		want              string
	}{
		{"no tasks", "...", "", 1, ""},
		{"one task", "...", "a 0,0 2,0", 1, "a 0,0 1,0 2,0"},
		{"a task of several pins", "... ...", "a 0,0 2,1 0,1", 1, "a 0,0 0,1 ; 0,1 1,1 2,1"},
		{"a single pin", "...", "a 1,0", 1, "a"},
		{"single pins beside others", "... ...", "a 0,0 2,0 | b 1,1 | c 0,1", 1, "a 0,0 1,0 2,0 | b | c"},
		{"a single pin in the way", "...", "a 0,0 2,0 | b 1,0", 1, "b"},
		{"a single pin in the way, again and again", "...", "a 0,0 2,0 | b 1,0", api.MaxTries, "b"},
		{"past a single pin", "... ...", "a 0,0 2,0 | b 1,0", 1, "a 0,0 0,1 1,1 2,1 2,0 | b"},
		{"past a single pin that comes before", "... ...", "a 1,0 | b 0,0 2,0", 1, "a | b 0,0 0,1 1,1 2,1 2,0"},
		{"a task that cannot be routed", ".#.", "a 0,0 2,0", 9, ""},
		{"a task of which some pins cannot be reached", "....#.", "a 0,0 1,0 5,0 | b 2,0 3,0", 9, "b 2,0 3,0"},
		{"past pins of a task that cannot be routed", "...# .... ####", "a 3,1 1,1 | b 0,1 2,1", 9, "b 0,1 0,0 1,0 2,0 2,1"},
		{"the first one is in the way", open, "a 0,2 4,2 | b 2,1 2,3", 1, "a 0,2 1,2 2,2 3,2 4,2"},
		{"the second one comes first", open, "a 0,2 4,2 | b 2,1 2,3", 2, "a " + around + " | b 2,1 2,2 2,3"},
		{"no more rounds than are needed", open, "a 0,2 4,2 | b 2,1 2,3", api.MaxTries, "a " + around + " | b 2,1 2,2 2,3"},
		{"two that cross", "... ... ...", "a 0,1 2,1 | b 1,0 1,2", 1, "a 0,1 1,1 2,1"},
		{"two that cross: rounds that are equal", "... ... ...", "a 0,1 2,1 | b 1,0 1,2", 2, "a 0,1 1,1 2,1"},
		{"two that cross: many rounds that are equal", "... ... ...", "a 0,1 2,1 | b 1,0 1,2", api.MaxTries, "a 0,1 1,1 2,1"},
		{"two that cross on two layers", "... ... ... / ... ... ...", "a 0,1 2,1 | b 1,0 1,2", 1, "a 0,1 1,1 2,1 | b 1,0 1,0,1 1,1,1 1,2,1 1,2"},
	} {
		r, f := route.Route(drawn(l.grid), plain(), tasks(l.tasks), l.tries)
		wantGood(t, l.what, r, f, routed(l.want))
	}
}

// U4: how many rounds there are, and which task begins each of them.
func TestRounds(t *testing.T) {
	// All of them want the cell in the middle.
	g, l := drawn(open), tasks("a 0,2 4,2 | b 2,1 2,3 | c 1,1 3,3")
	told := map[string]bool{}
	for tries := 1; tries <= 6; tries++ {
		r, f := route.Route(g, plain(), l, tries)
		wantGood(t, fmt.Sprint(tries), r, f, routeModel(g, plain(), l, tries))
		told[fmt.Sprint(r)] = true
	}
	if len(told) < 2 {
		t.Error("more rounds change nothing")
	}
}

// crowded is a grid with a layer on which there is room for some ways, but not for many.
func crowded(rnd *rand.Rand) api.Grid {
	g := empty(5+rnd.IntN(3), 5+rnd.IntN(3), 1)
	return withBlocked(g, randomPins(rnd, allCells(g), 5)...)
}

// U4: Route holds against the model, for any number of rounds; what it tells is right.
func TestRouteModel(t *testing.T) {
	complete, better := 0, 0
	tried(t, 400, func(rnd *rand.Rand) {
		g, c := crowded(rnd), randomCosts(rnd)
		l := randomTasks(rnd, g, 8, 3)
		what := fmt.Sprintf("%+v %+v %+v", g, c, l)
		before := 0
		for _, tries := range []int{1, 2, 3, 4, api.MaxTries} {
			r, f := route.Route(g, c, l, tries)
			wantGood(t, fmt.Sprint(what, tries), r, f, routeModel(g, c, l, tries))
			wantFault(t, what, route.CheckRouted(g, l, r), api.OK)
			if tries > 1 && len(r) > before {
				better++
			}
			before = len(r)
		}
		if before == len(l) {
			complete++
		}
	})
	if complete < 50 || complete > 350 || better < 10 {
		t.Errorf("%d times all are routed, %d times more than with fewer tries", complete, better)
	}
}

// U4: so does it with more tasks that stand in each other's way.
func TestCrowdedRoutes(t *testing.T) {
	tried(t, 60, func(rnd *rand.Rand) {
		g, c := randomGrid(rnd, 8, 2, 60, 20), randomCosts(rnd)
		l := randomTasks(rnd, g, 12, 3)
		tries := 1 + rnd.IntN(api.MaxTries)
		r, f := route.Route(g, c, l, tries)
		wantGood(t, fmt.Sprintf("%+v %+v %+v %d", g, c, l, tries), r, f, routeModel(g, c, l, tries))
	})
}

// U4: the numbers of tries that can be, and faults before them.
func TestTries(t *testing.T) {
	g, l := drawn("..."), tasks("a 0,0 2,0")
	for tries, expected := range map[int]api.Fault{1: api.OK, api.MaxTries: api.OK, 0: api.ErrRange, -1: api.ErrRange, api.MaxTries + 1: api.ErrRange} {
		r, f := route.Route(g, plain(), l, tries)
		wantFault(t, fmt.Sprint(tries), f, expected)
		if expected != api.OK {
			wantWrong(t, fmt.Sprint(tries), f, expected, r)
		}
	}
	r, f := route.Route(g, plain(), nil, 0)
	wantWrong(t, "no tasks", f, api.ErrRange, r)
	r, f = route.Route(g, plain(), tasks("a 0,0 0,0"), 0)
	wantWrong(t, "tasks before tries", f, api.ErrTwice, r)
	r, f = route.Route(g, api.Costs{}, tasks("a 0,0 0,0"), 1)
	wantWrong(t, "costs before tasks", f, api.ErrRange, r)
	r, f = route.Route(blocking(3, 1, 1, "0,0 0,0"), api.Costs{}, tasks("a 0,0 0,0"), 1)
	wantWrong(t, "the grid before costs", f, api.ErrOrder, r)
}

// U4: as many tasks as can be, with as many tries, on a large grid.
func TestLargeRoute(t *testing.T) {
	rnd := rand.New(rand.NewPCG(4, 2))
	g := empty(100, 100, 4)
	free := freeSample(rnd, g, 3*api.MaxTasks)
	var l []api.Task
	for i := range api.MaxTasks {
		l = append(l, api.Task{Net: fmt.Sprintf("n%03d", i), Pins: free[3*i : 3*i+3]})
	}
	r, f := route.Route(g, costs(1, 3, 1, 1), l, api.MaxTries)
	wantFault(t, "many tasks", f, api.OK)
	if len(r) < api.MaxTasks-10 {
		t.Errorf("many tasks: %d are routed", len(r))
	}
	wantFault(t, "many tasks", route.CheckRouted(g, l, r), api.OK)
	text, f := route.Text(r)
	wantFault(t, "many tasks", f, api.OK)
	again, line, f := route.Read(text)
	wantGood(t, "many tasks", again, f, r)
	want(t, "many tasks", line, 0)
	for i := range l {
		l[i].Pins = free[i : i+1]
	}
	r, f = route.Route(g, plain(), l, api.MaxTries)
	wantGood(t, "single pins", strings.Count(fmt.Sprint(r), "[]"), f, api.MaxTasks)
}

// freeSample are so many different cells of a grid.
func freeSample(rnd *rand.Rand, g api.Grid, many int) []api.Cell {
	all := allCells(g)
	rnd.Shuffle(len(all), func(i, j int) { all[i], all[j] = all[j], all[i] })
	return slices.Clone(all[:many])
}
