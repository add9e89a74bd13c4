package route_test

import (
	"fmt"
	"math/rand/v2"
	"slices"
	"testing"

	"etchhouse/api"
	"etchhouse/route"
)

// U5: what is routed with each fault, of which the first one is told.
func TestCheckRouted(t *testing.T) {
	g := drawn(".#... ..... ..... / ..... ....# .....")
	l := tasks("a 0,1 3,1 | b 2,0 2,2,1 | c 4,0 | d 0,2 1,2 3,2")
	const straight, below = "a 0,1 1,1 2,1 3,1", "b 2,0 2,0,1 2,1,1 2,2,1"
	for _, c := range []struct {
		what, routed string
		want         api.Fault
	}{
		{"nothing", "", api.OK},
		{"one", straight, api.OK},
		{"all", straight + " | " + below + " | c | d 0,2 1,2 ; 1,2 2,2 3,2", api.OK},
		{"all but the first one", below + " | c | d 1,2 2,2 3,2 ; 0,2 1,2", api.OK},
		{"a single pin", "c", api.OK},
		{"a single pin with a way", "c 4,0 3,0", api.OK},
		{"a way of one cell", "c 4,0", api.OK},
		{"a pin within a way", "d 0,2 1,2 2,2 3,2", api.OK},
		{"a way that ends at no pin", "a 0,1 1,1 2,1 3,1 4,1", api.OK},
		{"ways that cross each other", "a 0,1 1,1 2,1 3,1 ; 1,1 1,1,1 2,1,1 2,1", api.OK},
		{"a way twice", "a 0,1 1,1 2,1 3,1 ; 3,1 2,1 1,1 0,1", api.OK},
		{"ways that hang together by one that comes later", "d 0,2 1,2 ; 2,2 3,2 ; 1,2 2,2", api.OK},
		{"ways that hang together at a cell that is no pin", "d 0,2 1,2 2,2 ; 3,2 2,2", api.OK},

		{"no such task", "x", api.ErrNone},
		{"no such task, but in order", straight + " | aa", api.ErrNone},
		{"one twice", straight + " | " + straight, api.ErrOrder},
		{"not in order", "c | " + straight, api.ErrOrder},
		{"an empty way", "a 0,1 1,1 2,1 3,1 ;", api.ErrNone},
		{"no cell", "a 0,1 -1,1", api.ErrRange},
		{"a blocked cell", "a 0,1 1,1 1,0", api.ErrDenied},
		{"no neighbours", "a 0,1 3,1", api.ErrForm},
		{"a cell twice", "a 0,1 1,1 0,1", api.ErrTwice},
		{"over a pin of another task", "a 0,1 0,2 1,2 1,1 2,1 3,1", api.ErrClash},
		{"over a pin of another task that is told", "a 0,1 0,2 1,2 1,1 2,1 3,1 | d 0,2 1,2 2,2 3,2", api.ErrClash},
		{"over a single pin", "a 0,1 1,1 2,1 3,1 4,1 4,0", api.ErrClash},
		{"only to a pin of another task", "a 2,0 2,1", api.ErrClash},
		{"over a way", straight + " | b 2,0 2,1 2,1,1 2,2,1", api.ErrClash},
		{"over a way of a task further before", straight + " | c | d 0,2 1,2 ; 1,2 1,1 ; 1,2 2,2 3,2", api.ErrClash},
		{"beside a way that is not told", "b 2,0 2,1 2,1,1 2,2,1", api.OK},
		{"a pin without a way", "a", api.ErrForm},
		{"a pin that is not reached", "d 0,2 1,2", api.ErrForm},
		{"no pin is reached", "d 2,2 2,1", api.ErrForm},
		{"a way by itself", "a 0,1 1,1 2,1 3,1 ; 0,1,1 1,1,1", api.ErrForm},
		{"a way by itself beside a single pin", "c 3,0 2,0,1", api.ErrForm},
		{"a way by itself, of one cell", "c 3,0", api.ErrForm},
		{"ways that touch, but have no common cell", "d 0,2 1,2 ; 2,2 3,2", api.ErrForm},
		{"two parts", "d 0,2 1,2 ; 2,2 3,2 ; 0,2 0,2,1 ; 2,2 2,1", api.ErrForm},

		{"no such task before its ways", "x 9,9", api.ErrNone},
		{"no such task before the order", "c | aa", api.ErrNone},
		{"the order before ways", "c | a 9,9", api.ErrOrder},
		{"a way before a clash", "a 0,1 0,2 9,9", api.ErrRange},
		{"a later way before a clash", "a 0,1 0,2 ; 9,9", api.ErrRange},
		{"the first way", "a 1,0 ; 9,9", api.ErrDenied},
		{"a clash before what does not hang together", "a 2,0", api.ErrClash},
		{"what does not hang together before the next one", "a 0,1 1,1 | a 9,9", api.ErrForm},
		{"a clash before the next one", "a 0,2 | x", api.ErrClash},
		{"the next one before what does not hang together there", "c | d 9,9", api.ErrRange},
	} {
		wantFault(t, c.what, route.CheckRouted(g, l, routed(c.routed)), c.want)
	}
	wantFault(t, "no name", route.CheckRouted(g, l, []api.Routed{{Ways: ways("0,0")}}), api.ErrNone)
}

// U5: as much as can be, and more.
func TestMostRouted(t *testing.T) {
	g, l := empty(api.MaxSide, 2, 1), manyTasks(api.MaxTasks)
	var r []api.Routed
	for _, one := range l {
		r = append(r, api.Routed{Net: one.Net})
	}
	wantFault(t, "all tasks", route.CheckRouted(g, l, r), api.OK)
	wantFault(t, "more than can be", route.CheckRouted(g, l, append(r, api.Routed{})), api.ErrLarge)
	wantFault(t, "more than can be of nothing", route.CheckRouted(g, nil, make([]api.Routed, api.MaxTasks+1)), api.ErrLarge)
	wantFault(t, "as many as can be of nothing", route.CheckRouted(g, nil, make([]api.Routed, api.MaxTasks)), api.ErrNone)
	one := func(many int, more ...[]api.Cell) []api.Routed {
		return []api.Routed{{Net: "n000", Ways: append(slices.Repeat([][]api.Cell{l[0].Pins}, many), more...)}}
	}
	wantFault(t, "as many ways as can be", route.CheckRouted(g, l, one(api.MaxPins)), api.OK)
	wantFault(t, "one more", route.CheckRouted(g, l, one(api.MaxPins+1)), api.ErrLarge)
	wantFault(t, "one more before a way", route.CheckRouted(g, l, one(api.MaxPins, nil)), api.ErrLarge)
	wantFault(t, "a way that is too long", route.CheckRouted(g, l, one(0, make([]api.Cell, api.MaxCells+1))), api.ErrLarge)
	wantFault(t, "tasks before what is routed", route.CheckRouted(g, tasks("a"), make([]api.Routed, api.MaxTasks+1)), api.ErrNone)
	large := empty(api.MaxSide, api.MaxSide, 1)
	w := snake(api.MaxSide, api.MaxSide)
	all, ways := []api.Task{{Net: "a", Pins: []api.Cell{w[0], w[777], w[api.MaxCells-1]}}}, []api.Routed{{Net: "a", Ways: [][]api.Cell{w}}}
	wantFault(t, "the longest way", route.CheckRouted(large, all, ways), api.OK)
	n, missing, f := route.Total(large, plain(), all, ways)
	wantGood(t, "the longest way", []int{n, missing}, f, []int{api.MaxCells - 1, 0})
	b, f := route.Blocked(large, all, ways)
	wantGood(t, "the longest way", len(b.Blocked), f, api.MaxCells)
	wantFault(t, "all is blocked", route.CheckGrid(b), api.OK)
}

// U5: what is left of routes that are changed in one place holds against the model; so do Total and Blocked.
func TestRoutedModel(t *testing.T) {
	told := map[api.Fault]int{}
	tried(t, 3000, func(rnd *rand.Rand) {
		g, c := randomGrid(rnd, 5, 2, 40, 7), randomCosts(rnd)
		l := randomTasks(rnd, g, 4, 3)
		r, f := route.Route(g, c, l, 3)
		wantFault(t, "Route", f, api.OK)
		if rnd.IntN(4) > 0 {
			r = changed(rnd, g, r)
		}
		what := fmt.Sprintf("%+v %+v %+v %+v", g, c, l, r)
		expected := checkRoutedModel(g, l, r)
		told[expected]++
		wantFault(t, what, route.CheckRouted(g, l, r), expected)
		n, missing, f := route.Total(g, c, l, r)
		b, f2 := route.Blocked(g, l, r)
		if expected != api.OK {
			wantWrong(t, what, f, expected, n, missing)
			wantWrong(t, what, f2, expected, b)
			return
		}
		sum, blocked := 0, slices.Clone(g.Blocked)
		for _, one := range r {
			task := slices.IndexFunc(l, func(task api.Task) bool { return task.Net == one.Net })
			blocked = append(blocked, l[task].Pins...)
			for _, w := range one.Ways {
				sum += costModel(c, w)
				blocked = append(blocked, w...)
			}
		}
		wantGood(t, what, []int{n, missing}, f, []int{sum, len(l) - len(r)})
		slices.SortFunc(blocked, compareCells)
		wantGood(t, what, b, f2, api.Grid{W: g.W, H: g.H, Layers: g.Layers, Blocked: slices.Compact(blocked)})
		wantFault(t, what, route.CheckGrid(b), api.OK)
	})
	for _, f := range []api.Fault{api.OK, api.ErrNone, api.ErrOrder, api.ErrDenied, api.ErrForm, api.ErrTwice, api.ErrClash} {
		if told[f] < 20 {
			t.Errorf("fault %d: %d times", f, told[f])
		}
	}
}

// changed changes one thing of what is routed.
func changed(rnd *rand.Rand, g api.Grid, r []api.Routed) []api.Routed {
	if len(r) == 0 {
		return []api.Routed{{Net: "x"}}
	}
	one := &r[rnd.IntN(len(r))]
	all := allCells(g)
	cell := all[rnd.IntN(len(all))]
	switch rnd.IntN(9) {
	case 0:
		one.Net = "x"
	case 1:
		one.Net = r[0].Net
	case 2:
		one.Ways = append(one.Ways, []api.Cell{cell})
	case 3:
		w := []api.Cell{cell}
		for range rnd.IntN(5) {
			if n := neighbours(g, w[len(w)-1]); len(n) > 0 {
				w = append(w, n[rnd.IntN(len(n))])
			}
		}
		one.Ways = append(one.Ways, w)
	default:
		if len(one.Ways) == 0 {
			break
		}
		w := &one.Ways[rnd.IntN(len(one.Ways))]
		switch rnd.IntN(6) {
		case 0:
			one.Ways = one.Ways[1:]
		case 1:
			*w = (*w)[1:]
		case 2:
			*w = (*w)[:len(*w)-1]
		case 3:
			(*w)[rnd.IntN(len(*w))] = cell
		case 4:
			if n := neighbours(g, (*w)[len(*w)-1]); len(n) > 0 {
				*w = append(*w, n[rnd.IntN(len(n))])
			}
		case 5:
			slices.Reverse(*w)
			slices.Reverse(one.Ways)
		}
	}
	return r
}

// U5: the cost of all ways, and how many tasks are missing.
func TestTotal(t *testing.T) {
	g, l := drawn("... ... ... / ... ... ..."), tasks("a 0,0 2,0 2,1 | b 1,1 | c 0,2 2,2 | d 0,1")
	for _, c := range []struct {
		routed       string
		sum, missing int
	}{
		{"", 0, 4}, {"b", 0, 3}, {"b | d", 0, 2}, {"a 0,0 1,0 2,0 ; 2,0 2,1", 1003, 3}, {"a 0,0 1,0 2,0 2,1", 1103, 3}, {"a 0,0 1,0 2,0 2,1 | b | c 0,2 0,2,1 1,2,1 2,2,1 2,2 | d", 1103 + 2022, 0},
	} {
		n, missing, f := route.Total(g, costs(1, 10, 100, 1000), l, routed(c.routed))
		wantGood(t, c.routed, []int{n, missing}, f, []int{c.sum, c.missing})
	}
	n, missing, f := route.Total(g, plain(), nil, nil)
	wantGood(t, "no tasks", []int{n, missing}, f, []int{0, 0})
}

// U5: the grid with what is routed.
func TestBlocked(t *testing.T) {
	g, l := drawn("...# .... / .#.. ...."), tasks("a 0,0 2,0 | b 1,1,1 3,1 | c 3,0,1")
	for _, c := range []struct{ routed, want string }{
		{"", "...# .... / .#.. ...."},
		{"c", "...# .... / .#.# ...."},
		{"a 0,0 1,0 2,0", "#### .... / .#.. ...."},
		{"a 0,0 0,1 1,1 2,1 2,0", "#.## ###. / .#.. ...."},
		{"a 0,0 1,0 2,0 | b 1,1,1 1,1 2,1 3,1 | c 3,0,1 2,0,1", "#### .### / .### .#.."},
	} {
		b, f := route.Blocked(g, l, routed(c.routed))
		wantGood(t, c.routed, b, f, drawn(c.want))
	}
	b, f := route.Blocked(empty(2, 3, 1), nil, nil)
	wantGood(t, "nothing", b, f, empty(2, 3, 1))
}
