package drill_test

import (
	"fmt"
	"math/rand/v2"
	"slices"
	"testing"

	"etchhouse/api"
	"etchhouse/drill"
)

// D4: how far the machine goes.
func TestWay(t *testing.T) {
	for _, l := range []struct {
		points string
		from   api.Point
		want   int
	}{
		{"", point(0, 0), 0}, {"", point(7, -9), 0}, {"7,-9", point(7, -9), 0}, {"7,-9 7,-9", point(7, -9), 0},
		{"3,0", point(0, 0), 3}, {"0,3", point(0, 0), 3}, {"3,2", point(0, 0), 3}, {"2,3", point(0, 0), 3}, {"3,3", point(0, 0), 3},
		{"-3,2", point(0, 0), 3}, {"2,-3", point(0, 0), 3}, {"0,0", point(-4, 9), 9},
		{"1,0 0,0 1,0", point(0, 0), 3}, {"5,5 1,7 1,7 2,0", point(5, 0), 5 + 4 + 0 + 7},
		{"1000000,1000000 -1000000,-1000000", point(-1000000, 0), 4000000},
	} {
		n, f := drill.Way(points(l.points), l.from)
		wantGood(t, l.points, n, f, l.want)
	}
	far := slices.Repeat([]api.Point{point(api.MaxAt, 0), point(-api.MaxAt, 5)}, api.MaxHoles/2)
	n, f := drill.Way(far, point(-api.MaxAt, 0))
	wantGood(t, "as many as can be", n, f, 2*api.MaxAt*api.MaxHoles)
	tried(t, 1000, func(rnd *rand.Rand) {
		l, from := randomPoints(rnd, rnd.IntN(20), 30), randomPoint(rnd, 30)
		n, f := drill.Way(l, from)
		wantGood(t, fmt.Sprintf("%+v %+v", l, from), n, f, wayModel(l, from))
	})
}

// D4: how many points there can be, and where; the limit comes first.
func TestFaultsOfPoints(t *testing.T) {
	for _, one := range []struct {
		name string
		most int
		call func(l []api.Point, from api.Point) (any, api.Fault)
	}{
		{"Way", api.MaxHoles, func(l []api.Point, from api.Point) (any, api.Fault) { return drill.Way(l, from) }},
		{"Greedy", api.MaxTour, func(l []api.Point, from api.Point) (any, api.Fault) { return drill.Greedy(l, from) }},
		{"Better", api.MaxTour, func(l []api.Point, from api.Point) (any, api.Fault) { return drill.Better(l, from) }},
		{"Shortest", api.MaxExact, func(l []api.Point, from api.Point) (any, api.Fault) {
			order, n, f := drill.Shortest(l, from)
			if f != api.OK {
				want(t, "length beside a fault", n, 0)
			}
			return order, f
		}},
	} {
		for _, p := range []api.Point{point(-api.MaxAt-1, 0), point(api.MaxAt+1, 0), point(0, -api.MaxAt-1), point(0, api.MaxAt+1)} {
			what := fmt.Sprint(one.name, p)
			got, f := one.call(nil, p)
			wantWrong(t, what, f, api.ErrRange, got)
			got, f = one.call([]api.Point{{}, {}, p}, api.Point{})
			wantWrong(t, what, f, api.ErrRange, got)
			got, f = one.call(make([]api.Point, one.most+1), p)
			wantWrong(t, what, f, api.ErrLarge, got)
			got, f = one.call(slices.Repeat([]api.Point{p}, one.most+1), api.Point{})
			wantWrong(t, what, f, api.ErrLarge, got)
		}
		for _, p := range []api.Point{point(-api.MaxAt, api.MaxAt), point(api.MaxAt, -api.MaxAt)} {
			_, f := one.call([]api.Point{p, {}}, p)
			wantFault(t, one.name, f, api.OK)
		}
		_, f := one.call(make([]api.Point, one.most), api.Point{})
		wantFault(t, one.name, f, api.OK)
		got, f := one.call(make([]api.Point, one.most+1), api.Point{})
		wantWrong(t, one.name, f, api.ErrLarge, got)
	}
}

// D4: to the nearest point, of several the one with the least number.
func TestGreedy(t *testing.T) {
	for _, l := range []struct {
		what, points string
		from         api.Point
		want         []int
	}{
		{"no points", "", point(3, 3), nil}, {"one point", "9,9", point(0, 0), []int{0}},
		{"from elsewhere", "0,0 5,0 9,0", point(8, 0), []int{2, 1, 0}},
		{"equally near", "0,-3 3,3 -3,1 1,3", point(0, 0), []int{0, 2, 3, 1}},
		{"equally near, in another order", "1,3 -3,1 3,3 0,-3", point(0, 0), []int{0, 2, 1, 3}},
		{"all at one point", "2,2 2,2 2,2", point(2, 2), []int{0, 1, 2}},
		{"points twice", "5,0 1,0 5,0 1,0", point(0, 0), []int{1, 3, 0, 2}},
		{"it goes past a point, and comes back", "1,0 -2,0 3,0", point(0, 0), []int{0, 2, 1}},
		{"the greater difference counts", "4,4 5,0 0,6", point(0, 0), []int{0, 1, 2}},
	} {
		order, f := drill.Greedy(points(l.points), l.from)
		wantGood(t, l.what, order, f, l.want)
	}
}

// D4: random points, many of them equally near, hold against the model.
func TestRandomGreedy(t *testing.T) {
	tried(t, 1000, func(rnd *rand.Rand) {
		most := 1 + rnd.IntN(9)
		l, from := randomPoints(rnd, rnd.IntN(30), most), randomPoint(rnd, most)
		order, f := drill.Greedy(l, from)
		wantGood(t, fmt.Sprintf("%+v %+v", l, from), order, f, greedyModel(l, from))
	})
	tried(t, 5, func(rnd *rand.Rand) {
		l, from := randomPoints(rnd, api.MaxTour, 50), randomPoint(rnd, 50)
		order, f := drill.Greedy(l, from)
		wantGood(t, fmt.Sprintf("%+v %+v", l, from), order, f, greedyModel(l, from))
	})
}

// D4: an order that gets shorter by turns.
func TestBetter(t *testing.T) {
	for _, l := range []struct {
		what, points string
		from         api.Point
		want         []int
	}{
		{"no points", "", point(3, 3), nil}, {"one point", "9,9", point(0, 0), []int{0}}, {"all at one point", "2,2 2,2 2,2", point(2, 2), []int{0, 1, 2}},
		{"nothing to turn", "5,0 1,0 3,0", point(0, 0), []int{1, 2, 0}},
		{"as long the other way round", "1,1 -1,1", point(0, 0), []int{0, 1}},
		{"as short in another order", "1,0 -2,0 5,0", point(0, 0), []int{1, 0, 2}}, // greedy is 0, 1, 2: 1 and 3 and 7; the other one 2 and 3 and 4
		{"a turn of the first places alone", "0,1 10,1 -2,1 19,1", point(0, 0), []int{2, 0, 1, 3}},
	} {
		order, f := drill.Better(points(l.points), l.from)
		wantGood(t, l.what, order, f, l.want)
		model, _ := betterModel(points(l.points), l.from, api.MaxTurns)
		want(t, l.what, order, model)
	}
}

// D4: random points hold against the model. The way from Greedy over Better to Shortest does not get longer, and each order has each point once.
func TestRandomBetter(t *testing.T) {
	shorter, shortest := 0, 0
	tried(t, 1500, func(rnd *rand.Rand) {
		most := 1 + rnd.IntN(40)
		l, from := randomPoints(rnd, rnd.IntN(9), most), randomPoint(rnd, most)
		what := fmt.Sprintf("%+v %+v", l, from)
		order, f := drill.Better(l, from)
		model, _ := betterModel(l, from, api.MaxTurns)
		wantGood(t, what, order, f, model)
		quick, _ := quickModel(l, from, api.MaxTurns)
		want(t, what, quick, model)
		greedy, _ := drill.Greedy(l, from)
		exact, _, _ := drill.Shortest(l, from)
		a, b, c := wayModel(inOrder(l, exact), from), wayModel(inOrder(l, order), from), wayModel(inOrder(l, greedy), from)
		if a > b || b > c {
			t.Errorf("%s: Shortest %d, Better %d, Greedy %d", what, a, b, c)
		}
		for _, one := range [][]int{greedy, order, exact} {
			wantEach(t, what, one, len(l))
		}
		if b < c {
			shorter++
		}
		if a < b {
			shortest++
		}
	})
	if shorter < 100 || shortest < 100 {
		t.Errorf("Better is shorter %d times, Shortest %d times", shorter, shortest)
	}
}

// wantEach holds an order: it has each number once.
func wantEach(t *testing.T, what string, order []int, many int) {
	t.Helper()
	var all []int
	for i := range many {
		all = append(all, i)
	}
	want(t, what, slices.Sorted(slices.Values(order)), all)
}

// D4: many random points.
func TestBetterOfMany(t *testing.T) {
	tried(t, 20, func(rnd *rand.Rand) {
		l, from := randomPoints(rnd, api.MaxTour, 1+rnd.IntN(api.MaxAt)), randomPoint(rnd, 20)
		what := fmt.Sprintf("%+v %+v", l, from)
		order, f := drill.Better(l, from)
		model, turns := quickModel(l, from, api.MaxTurns)
		wantGood(t, what, order, f, model)
		wantEach(t, what, order, len(l))
		if turns < 10 {
			t.Errorf("%s: %d turns", what, turns)
		}
	})
}

// slow returns heaps of points far from each other; each one of them takes very many turns.
func slow(heaps int) []api.Point {
	heap := points(`12843,-30196 -17256,3782 -456,-2012 -17438,3561 -12381,-31340 -17544,3499 -812,-9532 -16238,3751 -17561,3262 44128,-37789
		-20713,35060 -18075,2932 -17462,3575 -17108,1977 -18938,1872 -29641,15762 -21531,-31657 18948,9374 9222,-26537 15410,-26978`)
	var out []api.Point
	for i := range heaps {
		for _, p := range heap {
			out = append(out, point(p.X-900000+200000*i, p.Y))
		}
	}
	return out
}

// D4: Better ends behind MaxTurns turns, also where one more would make the way shorter.
func TestMaxTurns(t *testing.T) {
	l, from := slow(10), point(-api.MaxAt, 0)
	order, f := drill.Better(l, from)
	model, _ := quickModel(l, from, api.MaxTurns)
	wantGood(t, "as many turns as can be", order, f, model)
	wantEach(t, "as many turns as can be", order, len(l))
	less, _ := quickModel(l, from, api.MaxTurns-1)
	more, turns := quickModel(l, from, api.MaxTurns+1)
	want(t, "turns that the model does", turns, api.MaxTurns+1)
	if slices.Equal(order, less) || slices.Equal(order, more) {
		t.Error("one turn less, or one more, makes no difference")
	}
}

// D4: Better does all turns, if they are no more than MaxTurns.
func TestManyTurns(t *testing.T) {
	l, from := slow(6), point(-api.MaxAt, 0)
	order, f := drill.Better(l, from)
	model, turns := quickModel(l, from, api.MaxTurns)
	wantGood(t, "many turns", order, f, model)
	if turns < 4000 || turns >= api.MaxTurns {
		t.Errorf("%d turns", turns)
	}
}

// D4: the shortest order, of several the least one.
func TestShortest(t *testing.T) {
	for _, l := range []struct {
		what, points string
		from         api.Point
		want         []int
		length       int
	}{
		{"no points", "", point(3, 3), nil, 0}, {"one point", "9,-9", point(0, 0), []int{0}, 9},
		{"all at one point", "2,2 2,2 2,2", point(2, 2), []int{0, 1, 2}, 0},
		{"either way round", "-5,0 5,0", point(0, 0), []int{0, 1}, 15}, {"either way round, exchanged", "5,0 -5,0", point(0, 0), []int{0, 1}, 15},
		{"points twice", "5,0 1,0 5,0 1,0", point(0, 0), []int{1, 3, 0, 2}, 5},
		{"a square", "10,0 10,10 0,10", point(0, 0), []int{0, 1, 2}, 30}, {"a square, in another order", "0,10 10,0 10,10", point(0, 0), []int{0, 1, 2}, 30},
		{"not the nearest point first", "1,0 -2,0 9,0", point(0, 0), []int{1, 0, 2}, 13},
		{"as far as can be", "1000000,1000000 -1000000,-1000000 1000000,-1000000", point(-1000000, 1000000), []int{0, 1, 2}, 6000000},
	} {
		order, n, f := drill.Shortest(points(l.points), l.from)
		wantGood(t, l.what, order, f, l.want)
		want(t, l.what, n, l.length)
	}
}

// D4: random points, with many shortest orders or few, hold against the model.
func TestRandomShortest(t *testing.T) {
	check := func(many, most int, rnd *rand.Rand) {
		l, from := randomPoints(rnd, many, most), randomPoint(rnd, most)
		order, n, f := drill.Shortest(l, from)
		model, length := shortestModel(l, from)
		wantGood(t, fmt.Sprintf("%+v %+v", l, from), order, f, model)
		want(t, fmt.Sprintf("%+v %+v", l, from), n, length)
	}
	tried(t, 1000, func(rnd *rand.Rand) { check(rnd.IntN(7), 1+rnd.IntN(20), rnd) })
	tried(t, 5, func(rnd *rand.Rand) { check(8, 1+rnd.IntN(5), rnd) })
}

// D4: as many points as can be: no random order is shorter, and none that is as short is less.
func TestShortestOfMost(t *testing.T) {
	tried(t, 20, func(rnd *rand.Rand) {
		most := 1 + rnd.IntN(4)
		l, from := randomPoints(rnd, api.MaxExact, most), randomPoint(rnd, most)
		what := fmt.Sprintf("%+v %+v", l, from)
		order, n, f := drill.Shortest(l, from)
		wantGood(t, what, n, f, wayModel(inOrder(l, order), from))
		wantEach(t, what, order, len(l))
		better, _ := drill.Better(l, from)
		for range 2000 {
			length := wayModel(inOrder(l, better), from)
			if length < n || length == n && slices.Compare(better, order) < 0 {
				t.Errorf("%s: %v is better than %v", what, better, order)
				return
			}
			i, j := rnd.IntN(len(l)), rnd.IntN(len(l))
			better = contrary(better, min(i, j), max(i, j))
		}
	})
}

// The example at the end of the chapter.
func TestExample(t *testing.T) {
	l, from := points("5,0 1,0 2,3"), point(0, 0)
	n, f := drill.Way(l, from)
	wantGood(t, "Way", n, f, 12)
	order, f := drill.Greedy(l, from)
	wantGood(t, "Greedy", order, f, []int{1, 2, 0})
	n, f = drill.Way(inOrder(l, order), from)
	wantGood(t, "Way of Greedy", n, f, 7)
	changes, f := drill.Changes(bits("a 1 2 3"), []api.Job{{Tool: "a", Holes: row(5)}})
	wantGood(t, "Changes", changes, f, []api.Change{{Tool: "a", Hole: 2}, {Tool: "a", Hole: 4}})
}
