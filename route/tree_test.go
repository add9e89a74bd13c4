package route_test

import (
	"fmt"
	"math/rand/v2"
	"slices"
	"testing"

	"etchhouse/api"
	"etchhouse/route"
)

// U3: trees, whose ways are told in the order in which they are found.
func TestTree(t *testing.T) {
	for _, l := range []struct {
		what, grid string
		c          api.Costs
		pins, want string
	}{
		{"two pins", "... ... ...", plain(), "0,0 2,2", "0,0 1,0 2,0 2,1 2,2"},
		{"the nearest pin first", ".....", plain(), "0,0 4,0 1,0", "0,0 1,0 ; 1,0 2,0 3,0 4,0"},
		{"of equal ones the first one in pins", ".....", plain(), "2,0 4,0 0,0", "2,0 3,0 4,0 ; 2,0 1,0 0,0"},
		{"the other way round", ".....", plain(), "2,0 0,0 4,0", "2,0 1,0 0,0 ; 2,0 3,0 4,0"},
		{"of equal ones the first one, though it has more cells", ".. / .. / ..", costs(2, 1, 0, 0), "0,0 0,0,2 1,0", "0,0 0,0,1 0,0,2 ; 0,0 1,0"},
		{"of equal ones the first one, which has fewer cells", ".. / .. / ..", costs(2, 1, 0, 0), "0,0 1,0 0,0,2", "0,0 1,0 ; 0,0 0,0,1 0,0,2"},
		{"of equal ones the first one, though it is greater", "... ...", plain(), "1,0 1,1 0,0", "1,0 1,1 ; 1,0 0,0"},
		{"pins one behind the other", "....", plain(), "3,0 0,0 1,0 2,0", "3,0 2,0 ; 2,0 1,0 ; 1,0 0,0"},
		{"from within a way", "..... ..... .....", plain(), "0,1 4,1 2,0", "0,1 0,0 1,0 2,0 ; 2,0 3,0 4,0 4,1"},
		{"from the least cell of the tree", ".... ....", plain(), "0,0 3,0 2,1", "0,0 1,0 2,0 3,0 ; 2,0 2,1"},
		{"no turn where a way leaves the tree", "... ... ...", costs(2, 1, 1, 0), "0,1 2,1 1,2", "0,1 1,1 2,1 ; 1,1 1,2"},
		{"over layers", "..# ### / #.. #..", plain(), "0,0 2,1,1 1,1,1", "0,0 1,0 1,0,1 1,1,1 ; 1,1,1 2,1,1"},
		{"not against", "... ... ... / ... ... ...", costs(1, 1, 0, 9), "0,0 2,2 0,2", "0,0 0,0,1 0,1,1 0,2,1 0,2 ; 0,2 1,2 2,2"},
	} {
		w, ok, f := route.Tree(drawn(l.grid), l.c, cells(l.pins))
		wantFound(t, l.what, w, ok, f, ways(l.want))
	}
}

// U3: a pin that is in the tree has no way: the first one, and none that a way has come to.
func TestPinsInTree(t *testing.T) {
	w, ok, f := route.Tree(drawn("..."), plain(), cells("1,0"))
	wantFound(t, "one pin", w, ok, f, nil)
	tried(t, 200, func(rnd *rand.Rand) {
		g, c := randomGrid(rnd, 6, 2, 40, 9), randomCosts(rnd)
		pins := randomPins(rnd, freeCells(g), 8)
		w, ok, f := route.Tree(g, c, pins)
		wantFault(t, "Tree", f, api.OK)
		if !ok {
			return
		}
		what := fmt.Sprintf("%+v %+v %v", g, c, pins)
		want(t, what+": ways", len(w), len(pins)-1)
		tree := pins[:1:1]
		for _, one := range w {
			wantFault(t, what, route.CheckWay(g, one), api.OK)
			want(t, what+": begins in the tree", slices.Contains(tree, one[0]), true)
			for _, cell := range one[1:] {
				want(t, what+": touches the tree", slices.Contains(tree, cell), false)
			}
			for _, cell := range one[1 : len(one)-1] {
				want(t, what+": goes through a pin", slices.Contains(pins, cell), false)
			}
			want(t, what+": ends at a pin", slices.Contains(pins, one[len(one)-1]), true)
			tree = append(tree, one...)
		}
	})
}

// U3: pins that cannot be reached.
func TestNoTree(t *testing.T) {
	for _, l := range []struct{ grid, pins string }{
		{".#.", "0,0 2,0"}, {"..#.", "0,0 1,0 3,0"}, {"..#.", "3,0 1,0 0,0"}, {". / # / .", "0,0 0,0,2"}, {".#.#.", "0,0 2,0 4,0"}, {"...#.", "1,0 0,0 2,0 4,0"},
	} {
		w, ok, f := route.Tree(drawn(l.grid), plain(), cells(l.pins))
		wantNone(t, l.grid, w, ok, f)
		n, ok, f := route.LeastTree(drawn(l.grid), plain(), cells(l.pins))
		wantNone(t, l.grid, n, ok, f)
	}
}

// U3: Tree holds against the model, and costs no less than LeastTree where there is no Turn and no Against.
func TestTreeModel(t *testing.T) {
	none := 0
	tried(t, 400, func(rnd *rand.Rand) {
		g, c := randomGrid(rnd, 6, 3, 40, 4), randomCosts(rnd)
		if rnd.IntN(3) == 0 {
			c.Turn, c.Against = 0, 0
		}
		pins := randomPins(rnd, freeCells(g), 6)
		what := fmt.Sprintf("%+v %+v %v", g, c, pins)
		model, found := treeModel(g, c, pins)
		w, ok, f := route.Tree(g, c, pins)
		n, is, f2 := route.LeastTree(g, c, pins)
		wantFault(t, what, f2, api.OK)
		want(t, what, is, found)
		if !found {
			none++
			wantNone(t, what, w, ok, f)
			return
		}
		wantFound(t, what, w, ok, f, model)
		sum := 0
		for _, one := range w {
			sum += costModel(c, one)
		}
		if sum < n {
			t.Errorf("%s: the tree costs %d, less than %d", what, sum, n)
		}
		if len(pins) == 2 && c.Turn+c.Against == 0 {
			want(t, what+": two pins", sum, n)
		}
	})
	if none < 20 {
		t.Errorf("%d times no tree", none)
	}
}

// U3: what the least tree costs.
func TestLeastTree(t *testing.T) {
	for _, l := range []struct {
		what, grid string
		c          api.Costs
		pins       string
		want       int
	}{
		{"one pin", "...", plain(), "1,0", 0},
		{"one cell", ".", costs(9, 9, 9, 9), "0,0", 0},
		{"two pins", "... ... ...", costs(3, 1, 0, 0), "0,0 2,2", 12},
		{"two pins, with Turn and Against", "... ... ...", costs(3, 1, 7, 9), "0,0 2,2", 12},
		{"a cross", "... ... ...", plain(), "1,0 0,1 2,1 1,2", 4},
		{"a cross, with Turn and Against", "... ... ...", costs(2, 1, 100, 100), "1,0 0,1 2,1 1,2", 8},
		{"corners", "..... ..... ..... ..... .....", plain(), "0,0 4,0 0,4 4,4", 12},
		{"six pins", "..... ..... .....", plain(), "0,0 2,0 4,0 0,2 2,2 4,2", 10},
		{"through layers", ". / . / . / .", costs(1, 7, 0, 0), "0,0,0 0,0,3 0,0,1", 21},
		{"over a cheap layer", "..... / .....", costs(5, 1, 0, 0), "0,0 4,0,1 2,0", 21},
		{"past what is blocked", ".#. .#. ...", plain(), "0,0 2,0 1,2", 6},
		{"a tree of several layers", "#.# ... #.# / ... .#. ...", costs(2, 3, 0, 0), "0,0,1 2,0,1 0,2,1 2,2,1", 12},
	} {
		n, ok, f := route.LeastTree(drawn(l.grid), l.c, cells(l.pins))
		wantFound(t, l.what, n, ok, f, l.want)
	}
}

// U3: a tree whose ways each cost least need not cost least, and LeastTree knows no Turn and no Against.
func TestTreeBesideLeastTree(t *testing.T) {
	g, pins := drawn("... ..."), cells("1,0 0,1 2,1")
	for _, l := range []struct {
		c            api.Costs
		tree         string
		sum, exactly int
	}{
		{plain(), "1,0 0,0 0,1 ; 1,0 2,0 2,1", 4, 3},
		{costs(3, 1, 0, 0), "1,0 0,0 0,1 ; 1,0 2,0 2,1", 12, 9},
		{costs(1, 1, 3, 0), "1,0 0,0 0,1 ; 0,1 1,1 2,1", 7, 3},
		{costs(1, 1, 0, 5), "1,0 0,0 0,1 ; 0,1 1,1 2,1", 9, 3},
		{costs(1, 1, 2, 7), "1,0 0,0 0,1 ; 0,1 1,1 2,1", 13, 3},
	} {
		w, ok, f := route.Tree(g, l.c, pins)
		wantFound(t, "Tree", w, ok, f, ways(l.tree))
		sum := 0
		for _, one := range w {
			n, f := route.CostOf(g, l.c, one)
			wantFault(t, "CostOf", f, api.OK)
			sum += n
		}
		want(t, "the cost of "+l.tree, sum, l.sum)
		n, ok, f := route.LeastTree(g, l.c, pins)
		wantFound(t, "LeastTree", n, ok, f, l.exactly)
	}
}

// U3: LeastTree holds against all sets of cells.
func TestLeastTreeModel(t *testing.T) {
	none := 0
	tried(t, 150, func(rnd *rand.Rand) {
		g, c := randomGrid(rnd, 5, 3, 14, 6), randomCosts(rnd)
		pins := randomPins(rnd, freeCells(g), api.MaxExactPins)
		what := fmt.Sprintf("%+v %+v %v", g, c, pins)
		n, ok, f := route.LeastTree(g, c, pins)
		model, found := leastTreeModel(g, costs(c.Step, c.Via, 0, 0), pins)
		if !found {
			none++
			wantNone(t, what, n, ok, f)
			return
		}
		wantFound(t, what, n, ok, f, model)
		other, ok, f := route.LeastTree(g, costs(c.Step, c.Via, 0, 0), pins)
		wantFound(t, what+": without Turn and Against", other, ok, f, n)
	})
	if none < 5 {
		t.Errorf("%d times no tree", none)
	}
}

// U3: the faults of pins, of which the first one is told.
func TestFaultsOfPins(t *testing.T) {
	g := drawn(".#. ... / ... #..")
	for _, l := range []struct {
		pins string
		want api.Fault
	}{
		{"0,0", api.OK}, {"0,0 2,1,1", api.OK}, {"", api.ErrNone},
		{"3,0", api.ErrRange}, {"-1,0", api.ErrRange}, {"0,2", api.ErrRange}, {"0,-1", api.ErrRange}, {"0,0,2", api.ErrRange}, {"0,0,-1", api.ErrRange}, {"0,0 3,0", api.ErrRange},
		{"1,0", api.ErrDenied}, {"0,0 0,1,1", api.ErrDenied}, {"0,0 0,0", api.ErrTwice}, {"0,0 0,1 0,0", api.ErrTwice},
		{"0,0 3,0 1,0 0,0", api.ErrRange}, {"0,0 1,0 3,0 0,0", api.ErrDenied}, {"0,0 0,0 1,0 3,0", api.ErrTwice}, {"1,0 1,0", api.ErrDenied}, {"3,0 3,0", api.ErrRange},
	} {
		w, ok, f := route.Tree(g, plain(), cells(l.pins))
		n, is, f2 := route.LeastTree(g, plain(), cells(l.pins))
		wantFault(t, l.pins, f, l.want)
		wantFault(t, l.pins, f2, l.want)
		if l.want != api.OK {
			wantWrong(t, l.pins, f, l.want, w, ok, n, is)
		}
	}
}

// U3: as many pins as can be, and one more; the largest grid of LeastTree, and a larger one.
func TestMostPins(t *testing.T) {
	g := empty(api.MaxPins+1, 1, 1)
	w, ok, f := route.Tree(g, plain(), allCells(g)[:api.MaxPins])
	wantFault(t, "as many pins as can be", f, api.OK)
	want(t, "as many pins as can be", ok, true)
	want(t, "as many pins as can be", len(w), api.MaxPins-1)
	w, ok, f = route.Tree(g, plain(), allCells(g))
	wantWrong(t, "one more", f, api.ErrLarge, w, ok)
	w, ok, f = route.Tree(g, plain(), make([]api.Cell, api.MaxPins+1))
	wantWrong(t, "one more, all the same", f, api.ErrLarge, w, ok)
	n, ok, f := route.LeastTree(g, plain(), allCells(g)[:api.MaxExactPins])
	wantFound(t, "as many exact pins as can be", n, ok, f, api.MaxExactPins-1)
	n, ok, f = route.LeastTree(g, plain(), allCells(g)[:api.MaxExactPins+1])
	wantWrong(t, "one more", f, api.ErrLarge, n, ok)
	n, ok, f = route.LeastTree(g, plain(), make([]api.Cell, api.MaxExactPins+1))
	wantWrong(t, "one more, all the same", f, api.ErrLarge, n, ok)
	n, ok, f = route.LeastTree(empty(20, api.MaxExactCells/20, 1), plain(), cells("0,0 19,0 0,19 19,19 10,10 5,15"))
	wantFound(t, "the largest grid", n, ok, f, 3*19+4)
	n, ok, f = route.LeastTree(empty(10, 5, 8), costs(api.MaxCost, api.MaxCost, 0, 0), cells("0,0,0 9,4,7"))
	wantFound(t, "the largest grid of layers", n, ok, f, 20*api.MaxCost)
	for _, larger := range []api.Grid{empty(67, 6, 1), empty(api.MaxSide, api.MaxSide, 1)} {
		n, ok, f = route.LeastTree(larger, plain(), cells("0,0 1,0"))
		wantWrong(t, "a larger grid", f, api.ErrLarge, n, ok)
		n, ok, f = route.LeastTree(larger, plain(), cells("-1,0"))
		wantWrong(t, "a larger grid before a pin", f, api.ErrLarge, n, ok)
		n, ok, f = route.LeastTree(larger, plain(), nil)
		wantWrong(t, "no pins before a larger grid", f, api.ErrNone, n, ok)
	}
}

// U3: a tree on the largest grid.
func TestLargeTree(t *testing.T) {
	g := empty(api.MaxSide, api.MaxSide, 1)
	var pins []api.Cell
	for i := range api.MaxPins {
		pins = append(pins, api.Cell{X: i * 4 % api.MaxSide, Y: i * 4})
	}
	c := costs(api.MaxCost, 1, api.MaxCost, api.MaxCost)
	w, ok, f := route.Tree(g, c, pins)
	wantFault(t, "a diagonal", f, api.OK)
	want(t, "a diagonal", ok, true)
	for i, one := range w {
		want(t, "a diagonal", []api.Cell{one[0], one[len(one)-1]}, pins[i:i+2])
		n, f := route.CostOf(g, c, one)
		wantGood(t, "a diagonal", n, f, 13*api.MaxCost)
	}
	// A way through all cells of a comb: each row is open, but for one cell between two rows.
	comb := empty(api.MaxSide, api.MaxSide-1, 1)
	for y := 1; y < comb.H; y += 2 {
		for x := range api.MaxSide {
			if x != (api.MaxSide-1)*(1-y/2%2) {
				comb.Blocked = append(comb.Blocked, api.Cell{X: x, Y: y})
			}
		}
	}
	way, ok, f := route.Way(comb, costs(1, 1, 1, 1), at("0,0"), api.Cell{X: 0, Y: comb.H - 1})
	wantFault(t, "a comb", f, api.OK)
	want(t, "a comb", ok, true)
	want(t, "a comb", len(way), 100*api.MaxSide+99)
	n, ok, f := route.Least(comb, costs(1, 1, 1, 1), at("0,0"), api.Cell{X: 0, Y: comb.H - 1})
	wantFound(t, "a comb", n, ok, f, 100*api.MaxSide+98+2*99+2*99)
}
