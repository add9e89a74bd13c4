package route_test

import (
	"cmp"
	"maps"
	"math/rand/v2"
	"slices"

	"etchhouse/api"
)

// The model tries all ways, and does all else just as the chapter says it.

func compareCells(a, b api.Cell) int {
	return cmp.Or(cmp.Compare(a.Layer, b.Layer), cmp.Compare(a.Y, b.Y), cmp.Compare(a.X, b.X))
}

func isCell(g api.Grid, c api.Cell) bool {
	return c.X >= 0 && c.X < g.W && c.Y >= 0 && c.Y < g.H && c.Layer >= 0 && c.Layer < g.Layers
}

func isBlocked(g api.Grid, c api.Cell) bool {
	return slices.Contains(g.Blocked, c)
}

func allCells(g api.Grid) []api.Cell {
	var out []api.Cell
	for layer := range g.Layers {
		for y := range g.H {
			for x := range g.W {
				out = append(out, api.Cell{X: x, Y: y, Layer: layer})
			}
		}
	}
	return out
}

func freeCells(g api.Grid) []api.Cell {
	return slices.DeleteFunc(allCells(g), func(c api.Cell) bool { return isBlocked(g, c) })
}

// neighbours of a cell that are not blocked.
func neighbours(g api.Grid, c api.Cell) []api.Cell {
	return slices.DeleteFunc(freeCells(g), func(d api.Cell) bool { return !areNext(c, d) })
}

func areNext(a, b api.Cell) bool {
	x, y, layer := a.X-b.X, a.Y-b.Y, a.Layer-b.Layer
	return x*x+y*y+layer*layer == 1
}

// costModel adds up what the steps of a way cost.
func costModel(c api.Costs, w []api.Cell) int {
	sum := 0
	var flat []string // along what the steps along X or Y go
	for i := 1; i < len(w); i++ {
		switch {
		case w[i].Layer != w[i-1].Layer:
			sum += c.Via
			continue
		case w[i].X != w[i-1].X:
			flat = append(flat, "x")
			sum += c.Step + w[i].Layer%2*c.Against
		default:
			flat = append(flat, "y")
			sum += c.Step + (1-w[i].Layer%2)*c.Against
		}
	}
	for i := 1; i < len(flat); i++ {
		if flat[i] != flat[i-1] {
			sum += c.Turn
		}
	}
	return sum
}

// compareWays puts the better way first.
func compareWays(c api.Costs, a, b []api.Cell) int {
	return cmp.Or(
		cmp.Compare(costModel(c, a), costModel(c, b)),
		cmp.Compare(len(a), len(b)),
		slices.CompareFunc(a, b, compareCells))
}

// allWays shows all ways between two cells.
func allWays(g api.Grid, from, to api.Cell, show func(w []api.Cell)) {
	next := map[api.Cell][]api.Cell{}
	for _, c := range freeCells(g) {
		next[c] = neighbours(g, c)
	}
	var goOn func(w []api.Cell)
	goOn = func(w []api.Cell) {
		last := w[len(w)-1]
		if last == to {
			show(w)
			return
		}
		for _, c := range next[last] {
			if !slices.Contains(w, c) {
				goOn(append(w, c))
			}
		}
	}
	goOn([]api.Cell{from})
}

// wayModel is the best one of all ways between two cells; nil, if there is none.
func wayModel(g api.Grid, c api.Costs, from, to api.Cell) []api.Cell {
	var best []api.Cell
	allWays(g, from, to, func(w []api.Cell) {
		if best == nil || compareWays(c, w, best) < 0 {
			best = slices.Clone(w)
		}
	})
	return best
}

// bestWays are the best ways from some cells to all cells to which there are ways, for grids with too many of these to try them all: ways get longer, as long as any gets better, where those to one cell that have come along X and along Y are kept apart.
func bestWays(g api.Grid, c api.Costs, from []api.Cell) map[api.Cell][]api.Cell {
	type come struct {
		cell  api.Cell
		along byte
	}
	ways := map[come][]api.Cell{}
	var changed []come
	for _, f := range from {
		ways[come{f, '-'}] = []api.Cell{f}
		changed = append(changed, come{f, '-'})
	}
	for len(changed) > 0 {
		at := changed[0]
		changed = changed[1:]
		for _, n := range neighbours(g, at.cell) {
			to := come{n, at.along}
			switch {
			case n.X != at.cell.X:
				to.along = 'x'
			case n.Y != at.cell.Y:
				to.along = 'y'
			}
			w := append(slices.Clone(ways[at]), n)
			if old, ok := ways[to]; !ok || compareWays(c, w, old) < 0 {
				ways[to] = w
				changed = append(changed, to)
			}
		}
	}
	out := map[api.Cell][]api.Cell{}
	for to, w := range ways {
		if old, ok := out[to.cell]; !ok || compareWays(c, w, old) < 0 {
			out[to.cell] = w
		}
	}
	return out
}

// treeModel adds the pins one by one, each over the best way from any cell of the tree.
func treeModel(g api.Grid, c api.Costs, pins []api.Cell) ([][]api.Cell, bool) {
	tree := []api.Cell{pins[0]}
	var out [][]api.Cell
	for {
		left := slices.DeleteFunc(slices.Clone(pins), func(p api.Cell) bool { return slices.Contains(tree, p) })
		if len(left) == 0 {
			return out, true
		}
		best := bestWays(g, c, tree)
		var way []api.Cell
		for _, p := range left {
			w, ok := best[p]
			if !ok {
				return nil, false
			}
			if way == nil || costModel(c, w) < costModel(c, way) {
				way = w
			}
		}
		out = append(out, way)
		tree = append(tree, way...)
	}
}

// leastTreeModel tries all sets of cells.
func leastTreeModel(g api.Grid, c api.Costs, pins []api.Cell) (int, bool) {
	free := freeCells(g)
	least, found := 0, false
	for bits := range 1 << len(free) {
		var set []api.Cell
		for i, cell := range free {
			if bits>>i&1 == 1 {
				set = append(set, cell)
			}
		}
		if slices.ContainsFunc(pins, func(p api.Cell) bool { return !slices.Contains(set, p) }) {
			continue
		}
		if cost, ok := spanning(c, set); ok && (!found || cost < least) {
			least, found = cost, true
		}
	}
	return least, found
}

// spanning is the least cost of edges that make a tree of a set of cells, and whether it hangs together: the cell that is joined at the least cost is always the next one.
func spanning(c api.Costs, set []api.Cell) (int, bool) {
	in, left, sum := set[:1:1], slices.Clone(set[1:]), 0
	for len(left) > 0 {
		least, place := 0, -1
		for i, a := range left {
			for _, b := range in {
				if cost := costModel(c, []api.Cell{a, b}); areNext(a, b) && (place < 0 || cost < least) {
					least, place = cost, i
				}
			}
		}
		if place < 0 {
			return 0, false
		}
		in, sum = append(in, left[place]), sum+least
		left = slices.Delete(left, place, place+1)
	}
	return sum, true
}

// withBlocked blocks more cells of a grid.
func withBlocked(g api.Grid, more ...api.Cell) api.Grid {
	g.Blocked = slices.Concat(g.Blocked, more)
	slices.SortFunc(g.Blocked, compareCells)
	g.Blocked = slices.Compact(g.Blocked)
	return g
}

// routeModel gives up ways, and begins again.
func routeModel(g api.Grid, c api.Costs, t []api.Task, tries int) []api.Routed {
	row := slices.Clone(t)
	var best []api.Routed
	fewest := len(t) + 1
	for round := 1; ; round++ {
		told, failed := roundModel(g, c, row)
		if len(failed) < fewest {
			best, fewest = told, len(failed)
		}
		if len(failed) == 0 || round == tries {
			break
		}
		front := failed[0]
		row = slices.DeleteFunc(row, func(one api.Task) bool { return one.Net == front.Net })
		row = append([]api.Task{front}, row...)
	}
	slices.SortFunc(best, func(a, b api.Routed) int { return cmp.Compare(a.Net, b.Net) })
	return best
}

func roundModel(g api.Grid, c api.Costs, row []api.Task) ([]api.Routed, []api.Task) {
	var told []api.Routed
	var failed []api.Task
	var taken []api.Cell
	for _, one := range row {
		blocked := slices.Clone(taken)
		for _, other := range row {
			if other.Net != one.Net {
				blocked = append(blocked, other.Pins...)
			}
		}
		ways, ok := treeModel(withBlocked(g, blocked...), c, one.Pins)
		if !ok {
			failed = append(failed, one)
			continue
		}
		told = append(told, api.Routed{Net: one.Net, Ways: ways})
		taken = slices.Concat(taken, one.Pins, slices.Concat(ways...))
	}
	return told, failed
}

// checkWayModel is CheckWay's fault for a grid without faults.
func checkWayModel(g api.Grid, w []api.Cell) api.Fault {
	if len(w) == 0 {
		return api.ErrNone
	}
	for i, c := range w {
		switch {
		case !isCell(g, c):
			return api.ErrRange
		case isBlocked(g, c):
			return api.ErrDenied
		case i > 0 && !areNext(w[i-1], c):
			return api.ErrForm
		case slices.Contains(w[:i], c):
			return api.ErrTwice
		}
	}
	return api.OK
}

// checkRoutedModel is CheckRouted's fault for tasks without faults.
func checkRoutedModel(g api.Grid, t []api.Task, r []api.Routed) api.Fault {
	for i, one := range r {
		task := slices.IndexFunc(t, func(task api.Task) bool { return task.Net == one.Net })
		if task < 0 {
			return api.ErrNone
		}
		if i > 0 && one.Net <= r[i-1].Net {
			return api.ErrOrder
		}
		for _, w := range one.Ways {
			if f := checkWayModel(g, w); f != api.OK {
				return f
			}
		}
		var others []api.Cell
		for j, other := range t {
			if j != task {
				others = append(others, other.Pins...)
			}
		}
		for _, earlier := range r[:i] {
			others = slices.Concat(others, slices.Concat(earlier.Ways...))
		}
		own := slices.Concat(t[task].Pins, slices.Concat(one.Ways...))
		if slices.ContainsFunc(own, func(c api.Cell) bool { return slices.Contains(others, c) }) {
			return api.ErrClash
		}
		if !joinedModel(t[task].Pins, one.Ways) {
			return api.ErrForm
		}
	}
	return api.OK
}

// joinedModel begins with a pin, and adds ways that have a cell which is there already.
func joinedModel(pins []api.Cell, ways [][]api.Cell) bool {
	there := map[api.Cell]bool{pins[0]: true}
	for range ways {
		for _, w := range ways {
			if slices.ContainsFunc(w, func(c api.Cell) bool { return there[c] }) {
				for _, c := range w {
					there[c] = true
				}
			}
		}
	}
	all := slices.Concat(pins, slices.Concat(ways...))
	return !slices.ContainsFunc(all, func(c api.Cell) bool { return !there[c] })
}

// squaresModel are the unit squares of a way's copper on a layer.
func squaresModel(w []api.Cell, layer int, at api.Point, pitch, width int) []api.Point {
	half := 0
	for 2*(half+1) <= width {
		half++
	}
	set := map[api.Point]bool{}
	cover := func(a, b api.Cell) {
		for x := at.X + pitch*min(a.X, b.X) - half; x < at.X+pitch*max(a.X, b.X)-half+width; x++ {
			for y := at.Y + pitch*min(a.Y, b.Y) - half; y < at.Y+pitch*max(a.Y, b.Y)-half+width; y++ {
				set[point(x, y)] = true
			}
		}
	}
	for i, c := range w {
		if c.Layer != layer {
			continue
		}
		cover(c, c)
		if i > 0 && w[i-1].Layer == layer {
			cover(w[i-1], c)
		}
	}
	return slices.SortedFunc(maps.Keys(set), comparePoints)
}

func comparePoints(p, q api.Point) int {
	return cmp.Or(cmp.Compare(p.Y, q.Y), cmp.Compare(p.X, q.X))
}

// randomGrid has at most so many cells, seldom much fewer, of which about one in few is blocked, but not all of them.
func randomGrid(rnd *rand.Rand, side, layers, most, few int) api.Grid {
	for {
		g := empty(1+rnd.IntN(side), 1+rnd.IntN(side), 1+rnd.IntN(layers))
		if many := g.W * g.H * g.Layers; many > most || 2*many < most && rnd.IntN(20) > 0 {
			continue
		}
		for _, c := range allCells(g) {
			if rnd.IntN(few) == 0 {
				g.Blocked = append(g.Blocked, c)
			}
		}
		if len(g.Blocked) < g.W*g.H*g.Layers {
			return g
		}
	}
}

// randomCosts are small, so that many ways have the same cost.
func randomCosts(rnd *rand.Rand) api.Costs {
	return costs(1+rnd.IntN(3), 1+rnd.IntN(4), rnd.IntN(4), rnd.IntN(3))
}

// randomPins are different ones of some cells, at most so many.
func randomPins(rnd *rand.Rand, free []api.Cell, most int) []api.Cell {
	free = slices.Clone(free)
	rnd.Shuffle(len(free), func(i, j int) { free[i], free[j] = free[j], free[i] })
	return free[:1+rnd.IntN(min(most, len(free)))]
}

// randomTasks have pins on different cells.
func randomTasks(rnd *rand.Rand, g api.Grid, most, pins int) []api.Task {
	free := freeCells(g)
	rnd.Shuffle(len(free), func(i, j int) { free[i], free[j] = free[j], free[i] })
	var out []api.Task
	for i := range 1 + rnd.IntN(most) {
		if many := 1 + rnd.IntN(pins); many <= len(free) {
			out = append(out, api.Task{Net: "n" + string(rune('a'+i)), Pins: free[:many]})
			free = free[many:]
		}
	}
	return out
}
