package route_test

import (
	"fmt"
	"math/rand/v2"
	"slices"
	"testing"

	"etchhouse/api"
	"etchhouse/route"
)

// U1: what the steps of a way cost.
func TestCostOf(t *testing.T) {
	g := empty(5, 5, 4)
	c := costs(1, 10, 100, 1000) // so that each digit of a cost counts something
	for _, l := range []struct {
		way  string
		want int
	}{
		{"3,3", 0},
		{"0,0 1,0 2,0", 2}, {"2,0 1,0 0,0", 2}, {"0,0,2 1,0,2", 1}, {"0,0 0,1 0,2", 2002}, {"0,2,2 0,1,2", 1001},
		{"0,0,1 0,1,1 0,2,1", 2}, {"0,0,3 0,1,3", 1}, {"0,0,1 1,0,1 2,0,1", 2002}, {"1,0,3 0,0,3", 1001},
		{"0,0 0,0,1 0,0,2", 20}, {"0,0,3 0,0,2", 10},
		{"0,0 1,0 1,1", 1102}, {"0,0 0,1 1,1", 1102}, {"0,0,1 1,0,1 1,1,1", 1102}, {"0,0 1,0 1,1 2,1 2,2", 2304}, {"1,1 2,1 2,2 1,2 1,3", 2304},
		{"0,0 1,0 1,0,1 1,1,1", 112}, {"0,0 1,0 1,0,1 1,0,2 1,1,2", 1122}, {"0,0 1,0 1,0,1 2,0,1", 1012}, {"0,0 1,0 1,0,1 1,0,2 2,0,2", 22},
		{"0,0 0,0,1 0,1,1", 11}, {"0,0,1 0,0 1,0", 11}, {"0,0 1,0 1,0,1", 11}, {"0,0,1 0,1,1 0,1,0 1,1,0 1,1,1 1,2,1", 223},
	} {
		n, f := route.CostOf(g, c, cells(l.way))
		wantGood(t, l.way, n, f, l.want)
	}
	n, f := route.CostOf(empty(api.MaxSide, api.MaxSide, 1), costs(api.MaxCost, 1, api.MaxCost, api.MaxCost), snake(api.MaxSide, api.MaxSide))
	wantGood(t, "the longest way", n, f, 1000*(200*200-1)+1000*199+1000*2*199)
}

// U1: the costs of random ways hold against the model, from either end.
func TestCostOfModel(t *testing.T) {
	tried(t, 1000, func(rnd *rand.Rand) {
		g, c := randomGrid(rnd, 5, 3, 40, 6), randomCosts(rnd)
		free := freeCells(g)
		w := []api.Cell{free[rnd.IntN(len(free))]}
		for range rnd.IntN(20) {
			n := slices.DeleteFunc(neighbours(g, w[len(w)-1]), func(n api.Cell) bool { return slices.Contains(w, n) })
			if len(n) > 0 {
				w = append(w, n[rnd.IntN(len(n))])
			}
		}
		n, f := route.CostOf(g, c, w)
		wantGood(t, fmt.Sprintf("%+v %+v %+v", g, c, w), n, f, costModel(c, w))
		slices.Reverse(w)
		n, f = route.CostOf(g, c, w)
		wantGood(t, fmt.Sprintf("%+v %+v %+v", g, c, w), n, f, costModel(c, w))
	})
}

// The example at the end of the chapter.
func TestExample(t *testing.T) {
	g := drawn(".#. ...")
	const way = "0,0 0,1 1,1 2,1 2,0"
	for _, l := range []struct {
		c    api.Costs
		want int
	}{{costs(1, 1, 1, 0), 4 + 2}, {costs(1, 1, 1, 10), 4 + 2 + 2*10}, {costs(1, 1, 0, 0), 4}, {costs(7, 1, 0, 0), 28}} {
		w, ok, f := route.Way(g, l.c, at("0,0"), at("2,0"))
		wantFound(t, "Way", w, ok, f, cells(way))
		n, f := route.CostOf(g, l.c, cells(way))
		wantGood(t, "CostOf", n, f, l.want)
		n, ok, f = route.Least(g, l.c, at("0,0"), at("2,0"))
		wantFound(t, "Least", n, ok, f, l.want)
	}
}

// U2: ways of which there are several.
func TestWay(t *testing.T) {
	for _, l := range []struct {
		what, grid string
		c          api.Costs
		from, to   string
		want       string
	}{
		{"one cell", ".", plain(), "0,0", "0,0", "0,0"},
		{"one cell of many", "... ... / ... ...", costs(1, 1, 1, 1), "1,1,1", "1,1,1", "1,1,1"},
		{"two cells", "..", plain(), "1,0", "0,0", "1,0 0,0"},
		{"the least one goes along X first", "... ... ...", plain(), "0,0", "2,2", "0,0 1,0 2,0 2,1 2,2"},
		{"the least one goes down first", "... ... ...", plain(), "2,2", "0,0", "2,2 2,1 2,0 1,0 0,0"},
		{"down, then along X", "... ... ...", plain(), "0,2", "2,0", "0,2 0,1 0,0 1,0 2,0"},
		{"along X, then up", "... ... ...", plain(), "2,0", "0,2", "2,0 1,0 0,0 0,1 0,2"},
		{"a lower layer first", "... ... / ... ...", plain(), "0,0,1", "1,1,0", "0,0,1 0,0,0 1,0,0 1,1,0"},
		{"a higher layer last", "... ... / ... ...", plain(), "0,0,0", "1,1,1", "0,0 1,0 1,1 1,1,1"},
		{"past what is blocked", "..#. .#.. ....", plain(), "0,0", "3,0", "0,0 0,1 0,2 1,2 2,2 2,1 3,1 3,0"},
		{"Against on an even layer", "... ... ... / ... ... ...", costs(1, 1, 0, 5), "0,0", "0,2", "0,0 0,0,1 0,1,1 0,2,1 0,2"},
		{"Against on an odd layer", "... ... ... / ... ... ...", costs(1, 1, 0, 5), "0,0,1", "2,0,1", "0,0,1 0,0 1,0 2,0 2,0,1"},
		{"not worth a change of layers", "... ... ... / ... ... ...", costs(1, 6, 0, 5), "0,0", "0,2", "0,0 0,1 0,2"},
		{"a change of layers costs as much, and has more cells", "... ... ... / ... ... ...", costs(1, 5, 0, 5), "0,0", "0,2", "0,0 0,1 0,2"},
		{"a turn less for more cells", ".... .##. .... ..#. ....", costs(1, 1, 3, 0), "0,2", "3,3", "0,2 1,2 2,2 3,2 3,3"},
		{"a turn over a change of layers", "#.# ... / ... ...", costs(1, 1, 9, 0), "0,1", "1,0", "0,1 1,1 1,0"},
	} {
		g := drawn(l.grid)
		w, ok, f := route.Way(g, l.c, at(l.from), at(l.to))
		wantFound(t, l.what, w, ok, f, cells(l.want))
		n, ok, f := route.Least(g, l.c, at(l.from), at(l.to))
		wantFound(t, l.what, n, ok, f, costModel(l.c, cells(l.want)))
	}
}

// U2: of several ways of one cost the one with the fewest cells is told, though another one is less; of these the least one.
func TestFewestCells(t *testing.T) {
	for _, l := range []struct {
		grid     string
		c        api.Costs
		way      string
		sameCost []string // which are not told
	}{
		{"... ... / #.. #..", costs(1, 1, 0, 2), "1,0,1 2,0,1", []string{"1,0,1 1,0 2,0 2,0,1"}},
		{"... ... / ... ...", costs(1, 1, 0, 2), "0,1 0,0", []string{"0,1 0,1,1 0,0,1 0,0"}},
		{"... ... ...", costs(1, 1, 0, 0), "2,0 1,0 0,0 0,1", []string{"2,0 1,0 1,1 0,1", "2,0 2,1 1,1 0,1"}},
		{"... ... ...", costs(1, 1, 1, 0), "0,0 1,0 2,0 2,1 2,2", []string{"0,0 0,1 0,2 1,2 2,2"}},
		{".#. ... .#.", costs(3, 1, 2, 0), "0,0 0,1 1,1 2,1 2,2", nil},
		{"#.... #.##. ....# ###..", costs(1, 1, 1, 0), "0,2 1,2 2,2 3,2 3,3 4,3", nil},
		{"..... .###. .....", costs(1, 1, 0, 0), "2,0 1,0 0,0 0,1 0,2 1,2 2,2", []string{"2,0 3,0 4,0 4,1 4,2 3,2 2,2"}},
		{"..... .###. .....", costs(1, 1, 0, 0), "2,2 1,2 0,2 0,1 0,0 1,0 2,0", []string{"2,2 3,2 4,2 4,1 4,0 3,0 2,0"}},
	} {
		g, w := drawn(l.grid), cells(l.way)
		found, ok, f := route.Way(g, l.c, w[0], w[len(w)-1])
		wantFound(t, l.way, found, ok, f, w)
		cost, f := route.CostOf(g, l.c, w)
		wantFault(t, l.way, f, api.OK)
		for _, other := range l.sameCost {
			n, f := route.CostOf(g, l.c, cells(other))
			wantGood(t, other, n, f, cost)
		}
	}
}

// U2: cells to which there is no way.
func TestNoWay(t *testing.T) {
	for _, l := range []struct{ grid, from, to string }{
		{".#.", "0,0", "2,0"}, {".#. #..", "0,0", "1,1"}, {"... ### / ### ...", "0,0", "0,1,1"}, {".. / ## / ..", "0,0,0", "0,0,2"},
	} {
		g := drawn(l.grid)
		w, ok, f := route.Way(g, plain(), at(l.from), at(l.to))
		wantNone(t, l.grid, w, ok, f)
		n, ok, f := route.Least(g, plain(), at(l.from), at(l.to))
		wantNone(t, l.grid, n, ok, f)
	}
}

// U2: Least and Way hold against all ways that there are; what follows for the least cost is so, too.
func TestWayModel(t *testing.T) {
	none := 0
	tried(t, 1500, func(rnd *rand.Rand) {
		g, c := randomGrid(rnd, 5, 3, 18, 5), randomCosts(rnd)
		free := freeCells(g)
		from, to := free[rnd.IntN(len(free))], free[rnd.IntN(len(free))]
		what := fmt.Sprintf("%+v %+v %v %v", g, c, from, to)
		model := wayModel(g, c, from, to)
		w, ok, f := route.Way(g, c, from, to)
		n, is, f2 := route.Least(g, c, from, to)
		if model == nil {
			none++
			wantNone(t, what, w, ok, f)
			wantNone(t, what, n, is, f2)
			return
		}
		wantFound(t, what, w, ok, f, model)
		wantFound(t, what, n, is, f2, costModel(c, model))
		want(t, what+": the other model", bestWays(g, c, []api.Cell{from})[to], model)
	})
	if none < 50 {
		t.Errorf("%d times no way", none)
	}
}

// U2: so do they on larger grids, where turns and changes of layers matter more; what follows for least costs.
func TestLongerWays(t *testing.T) {
	tried(t, 60, func(rnd *rand.Rand) {
		g, c := randomGrid(rnd, 7, 3, 100, 3), randomCosts(rnd)
		if rnd.IntN(2) == 0 {
			c = costs(1+rnd.IntN(9), 1+rnd.IntN(30), rnd.IntN(30), rnd.IntN(9))
		}
		free := freeCells(g)
		from := free[rnd.IntN(len(free))]
		best := bestWays(g, c, []api.Cell{from})
		for _, to := range free {
			what := fmt.Sprintf("%+v %+v %v %v", g, c, from, to)
			w, ok, f := route.Way(g, c, from, to)
			n, is, f2 := route.Least(g, c, from, to)
			back, isBack, f3 := route.Least(g, c, to, from)
			if best[to] == nil {
				wantNone(t, what, w, ok, f)
				wantNone(t, what, n, is, f2)
				wantNone(t, what, back, isBack, f3)
				continue
			}
			wantFound(t, what, w, ok, f, best[to])
			wantFault(t, what, route.CheckWay(g, w), api.OK)
			wantFound(t, what, n, is, f2, costModel(c, w))
			wantFound(t, what+": back", back, isBack, f3, n)
			flat := max(from.X-to.X, to.X-from.X) + max(from.Y-to.Y, to.Y-from.Y)
			if least := flat*c.Step + max(from.Layer-to.Layer, to.Layer-from.Layer)*c.Via; n < least {
				t.Errorf("%s: %d costs less than %d", what, n, least)
			}
		}
	})
}

// U2: how many cells are reached.
func TestReach(t *testing.T) {
	for _, l := range []struct {
		grid       string
		c          api.Costs
		from       string
		most, want int
	}{
		{".", plain(), "0,0", 0, 1}, {".", plain(), "0,0", api.MaxReach, 1},
		{"..... ..... ..... ..... .....", plain(), "2,2", 0, 1}, {"..... ..... ..... ..... .....", plain(), "2,2", 1, 5}, {"..... ..... ..... ..... .....", plain(), "2,2", 2, 13},
		{"..... ..... ..... ..... .....", plain(), "2,2", 3, 21}, {"..... ..... ..... ..... .....", plain(), "2,2", 4, 25}, {"..... ..... ..... ..... .....", plain(), "2,2", api.MaxReach, 25},
		{"..... ..... ..... ..... .....", costs(2, 1, 0, 0), "2,2", 3, 5}, {"..... ..... ..... ..... .....", costs(1, 1, 1, 0), "2,2", 2, 9}, {"..... ..... ..... ..... .....", costs(1, 1, 0, 1), "2,2", 2, 7},
		{"... ... / ... ...", costs(1, 3, 0, 9), "0,0", 2, 3}, {"... ... / ... ...", costs(1, 3, 0, 9), "0,0", 3, 4}, {"... ... / ... ...", costs(1, 3, 0, 9), "0,0", 4, 6},
		{".#. ...", costs(1, 5, 1, 2), "0,0", 3, 2}, {".#. ...", costs(1, 5, 1, 2), "0,0", 9, 4}, {".#. ...", costs(1, 5, 1, 2), "0,0", 10, 5},
		{".#. .#.", plain(), "0,0", api.MaxReach, 2},
	} {
		n, f := route.Reach(drawn(l.grid), l.c, at(l.from), l.most)
		wantGood(t, fmt.Sprint(l), n, f, l.want)
	}
	n, f := route.Reach(empty(api.MaxSide, api.MaxSide, 1), costs(api.MaxCost, 1, 0, 0), at("0,0"), api.MaxCost*398)
	wantGood(t, "all cells", n, f, api.MaxCells)
	n, f = route.Reach(empty(api.MaxSide, api.MaxSide, 1), costs(api.MaxCost, 1, 0, 0), at("0,0"), api.MaxCost*398-1)
	wantGood(t, "all cells but one", n, f, api.MaxCells-1)
}

// U2: Reach holds against the best ways to all cells.
func TestReachModel(t *testing.T) {
	tried(t, 300, func(rnd *rand.Rand) {
		g, c := randomGrid(rnd, 6, 3, 50, 4), randomCosts(rnd)
		free := freeCells(g)
		from, most := free[rnd.IntN(len(free))], rnd.IntN(25)
		reached := 0
		for _, w := range bestWays(g, c, []api.Cell{from}) {
			if costModel(c, w) <= most {
				reached++
			}
		}
		n, f := route.Reach(g, c, from, most)
		wantGood(t, fmt.Sprintf("%+v %+v %v %d", g, c, from, most), n, f, reached)
	})
}

// U2: the faults of ends, in their order, and of what may be reached.
func TestFaultsOfEnds(t *testing.T) {
	g := drawn(".#. ... / ... #..")
	for _, l := range []struct {
		from, to string
		want     api.Fault
	}{
		{"0,0", "2,0", api.OK},
		{"3,0", "0,0", api.ErrRange}, {"-1,0", "0,0", api.ErrRange}, {"0,2", "0,0", api.ErrRange}, {"0,-1", "0,0", api.ErrRange}, {"0,0,2", "0,0", api.ErrRange}, {"0,0,-1", "0,0", api.ErrRange},
		{"1,0", "0,0", api.ErrDenied}, {"0,1,1", "0,0", api.ErrDenied}, {"1,0", "0,1,1", api.ErrDenied}, {"1,0", "1,0", api.ErrDenied},
		{"3,0", "1,0", api.ErrRange}, {"1,0", "3,0", api.ErrRange}, {"9,9", "-9,9", api.ErrRange},
	} {
		for _, ends := range [][2]api.Cell{{at(l.from), at(l.to)}, {at(l.to), at(l.from)}} {
			what := fmt.Sprint(ends)
			w, ok, f := route.Way(g, plain(), ends[0], ends[1])
			n, is, f2 := route.Least(g, plain(), ends[0], ends[1])
			wantFault(t, what, f, l.want)
			wantFault(t, what, f2, l.want)
			if l.want != api.OK {
				wantWrong(t, what, f, l.want, w, ok, n, is)
			}
		}
	}
	for _, l := range []struct {
		from string
		most int
		want api.Fault
	}{
		{"0,0", 0, api.OK}, {"0,0", api.MaxReach, api.OK}, {"0,0", -1, api.ErrRange}, {"0,0", api.MaxReach + 1, api.ErrRange},
		{"3,0", 0, api.ErrRange}, {"1,0", 0, api.ErrDenied}, {"1,0", -1, api.ErrDenied}, {"0,0,2", -1, api.ErrRange},
	} {
		n, f := route.Reach(g, plain(), at(l.from), l.most)
		wantFault(t, fmt.Sprint(l), f, l.want)
		if l.want != api.OK {
			wantWrong(t, fmt.Sprint(l), f, l.want, n)
		}
	}
}
