package rules_test

import (
	"fmt"
	"math/rand/v2"
	"testing"

	"etchhouse/api"
	"etchhouse/rules"
)

func tooNear(a, b, is, need, x, y int) api.Break {
	return api.Break{Kind: api.BreakClear, A: a, B: b, Is: is, Need: need, At: point(x, y)}
}

// R3: two pieces at just the distance that is needed, and one less.
func TestClear(t *testing.T) {
	for _, between := range []int{1, 3, 50} {
		a := two(between)
		l, f := rules.Clear(api.RuleSet{Clearance: between}, a, []string{"a", "b"})
		wantBreaks(t, "just so far", l, f)
		l, f = rules.Clear(api.RuleSet{Clearance: between + 1}, a, []string{"a", "b"})
		wantBreaks(t, "one less", l, f, tooNear(0, 1, between, between+1, 4, 0))
		l, f = rules.Clear(api.RuleSet{Clearance: api.MaxRule}, a, []string{"a", "b"})
		wantBreaks(t, "far less", l, f, tooNear(0, 1, between, api.MaxRule, 4, 0))
		l, f = rules.Clear(api.RuleSet{}, a, []string{"a", "b"})
		wantBreaks(t, "no clearance", l, f)
	}
	a := art([]api.Rect{rect(0, 0, 5, 5), rect(5, 5, 9, 9)})
	l, f := rules.Clear(api.RuleSet{Clearance: 1}, a, []string{"", ""})
	wantBreaks(t, "corners that touch", l, f, tooNear(0, 1, 0, 1, 4, 4))
	l, f = rules.Clear(api.RuleSet{}, a, []string{"", ""})
	wantBreaks(t, "corners that may touch", l, f)
	far := art([]api.Rect{rect(0, 0, 1, 1), rect(api.MaxRule, 0, api.MaxRule+1, 1)})
	l, f = rules.Clear(api.RuleSet{Clearance: api.MaxRule}, far, []string{"", ""})
	wantBreaks(t, "far from one another", l, f, tooNear(0, 1, api.MaxRule-1, api.MaxRule, 0, 0))
	far = art([]api.Rect{rect(0, 0, 1, 1), rect(api.MaxRule+1, 0, api.MaxRule+2, 1)})
	l, f = rules.Clear(api.RuleSet{Clearance: api.MaxRule}, far, []string{"", ""})
	wantBreaks(t, "as far as can be needed", l, f)
}

// R3: pieces of two groups with one net need it, too; those of one group do not.
func TestClearOfGroups(t *testing.T) {
	a := two(3)
	for _, nets := range [][]string{{"", ""}, {"a", "a"}, {"a", ""}, {"", "a"}, {"a", "b"}} {
		l, f := rules.Clear(api.RuleSet{Clearance: 4}, a, nets)
		wantBreaks(t, fmt.Sprint(nets), l, f, tooNear(0, 1, 3, 4, 4, 0))
	}
	a = art([]api.Rect{rect(0, 0, 5, 5), rect(8, 0, 13, 5), rect(16, 0, 21, 5)}, []api.Rect{rect(0, 0, 21, 5), rect(0, 6, 5, 8)})
	l, f := rules.Clear(api.RuleSet{Clearance: 4}, a, noNets(a))
	wantBreaks(t, "five groups", l, f, tooNear(0, 1, 3, 4, 4, 0), tooNear(1, 2, 3, 4, 12, 0), tooNear(3, 4, 1, 4, 0, 4))
	a.Bores = []api.Bore{bore(2, 2, 2, 0, 1), bore(10, 2, 2, 0, 1)}
	l, f = rules.Clear(api.RuleSet{Clearance: 4}, a, noNets(a))
	wantBreaks(t, "three groups", l, f, tooNear(1, 2, 3, 4, 12, 0), tooNear(3, 4, 1, 4, 0, 4))
	a.Bores[1].Plated = false
	l, f = rules.Clear(api.RuleSet{Clearance: 4}, a, noNets(a))
	wantBreaks(t, "a bore that is not plated", l, f, tooNear(0, 1, 3, 4, 4, 0), tooNear(1, 2, 3, 4, 12, 0), tooNear(3, 4, 1, 4, 0, 4))
}

// R3: pieces that a bore cuts are two groups.
func TestClearOfCutPieces(t *testing.T) {
	a := art([]api.Rect{rect(0, 0, 10, 2)})
	a.Bores = []api.Bore{plain(5, 1, 2, 0, 0)}
	l, f := rules.Clear(api.RuleSet{Clearance: 3}, a, noNets(a))
	wantBreaks(t, "cut", l, f, tooNear(0, 1, 2, 3, 3, 0))
	a.Bores[0].Plated = true
	l, f = rules.Clear(api.RuleSet{Clearance: 3}, a, noNets(a))
	wantBreaks(t, "joined by the bore", l, f)
}

// R3: At is the first square of A that is so near, not the nearest one to the first of B.
func TestWhereClear(t *testing.T) {
	for _, c := range []struct {
		what string
		a, b []api.Rect
		want api.Break
	}{
		{"beside", []api.Rect{rect(0, 0, 2, 9)}, []api.Rect{rect(5, 4, 9, 5)}, tooNear(0, 1, 3, 9, 1, 0)},
		{"beside, further above", []api.Rect{rect(0, 0, 2, 9)}, []api.Rect{rect(5, 6, 9, 7)}, tooNear(0, 1, 3, 9, 1, 2)},
		{"above", []api.Rect{rect(0, 0, 9, 2)}, []api.Rect{rect(7, 4, 8, 5)}, tooNear(0, 1, 2, 9, 4, 1)},
		{"at a corner", []api.Rect{rect(0, 0, 2, 2)}, []api.Rect{rect(5, 4, 8, 5)}, tooNear(0, 1, 3, 9, 1, 0)},
		{"of two arms the lower one", []api.Rect{rect(0, 0, 1, 9), rect(1, 0, 3, 1), rect(1, 8, 3, 9)}, []api.Rect{rect(5, 3, 6, 9)}, tooNear(0, 1, 2, 9, 2, 0)},
	} {
		a := art(append(c.a, c.b...))
		l, f := rules.Clear(api.RuleSet{Clearance: 9}, a, noNets(a))
		wantBreaks(t, c.what, l, f, c.want)
	}
}

// R3: the clearance is that of the classes of both nets, or of the area at the square.
func TestClearOfClassesAndAreas(t *testing.T) {
	a := two(3)
	classes := []api.NetClass{class("less b", 2, 0), class("more a", 9, 0), class("same c", 0, 0)}
	r := api.RuleSet{Clearance: 3, Classes: classes}
	for _, c := range []struct {
		netA, netB string
		need       int
	}{{"a", "b", 9}, {"b", "a", 9}, {"", "a", 9}, {"a", "a", 9}, {"b", "b", 0}, {"b", "c", 0}, {"c", "", 0}} {
		l, f := rules.Clear(r, a, []string{c.netA, c.netB})
		if c.need == 0 {
			wantBreaks(t, fmt.Sprint(c), l, f)
		} else {
			wantBreaks(t, fmt.Sprint(c), l, f, tooNear(0, 1, 3, c.need, 4, 0))
		}
	}
	for _, c := range []struct {
		what string
		area api.RuleArea
		need int
	}{
		{"has the square", area(0, 3, rect(4, 0, 5, 1)), 0},
		{"has the square, with more", area(-1, 10, rect(4, 0, 5, 1)), 10},
		{"has the square, with 0", area(-1, 0, rect(-50, -50, 50, 50)), 0},
		{"has all but the square", area(0, 3, rect(5, 0, 50, 5), rect(0, 1, 50, 5), rect(0, 0, 4, 5)), 9},
		{"is on another layer", area(1, 3, rect(0, 0, 50, 50)), 9},
		{"has nothing", api.RuleArea{Clearance: 90}, 9},
	} {
		r.Areas = []api.RuleArea{c.area}
		l, f := rules.Clear(r, a, []string{"a", "b"})
		if c.need == 0 {
			wantBreaks(t, "an area that "+c.what, l, f)
		} else {
			wantBreaks(t, "an area that "+c.what, l, f, tooNear(0, 1, 3, c.need, 4, 0))
		}
	}
}

// crowd is so many pieces, each less than 100 away from each other one, from a height on.
func crowd(many, y int) []api.Rect {
	return strips(many, 0, y, y+1)
}

// R3: as many breaks as can be told, and one more.
func TestMostClear(t *testing.T) {
	r := api.RuleSet{Clearance: 250}
	const pairs = 100 * 99 / 2 // of 100 pieces; the others have 45 and 3 pairs, and one each
	a := art(crowd(100, 0), crowd(10, 0), crowd(3, 0), crowd(2, 0), crowd(2, 0))
	l, f := rules.Clear(r, a, noNets(a))
	wantFault(t, "as many as can be", f, api.OK)
	want(t, "as many as can be", len(l), api.MaxFound)
	want(t, "the first one behind those of one layer", l[pairs], tooNear(100, 101, 1, 250, 0, 0))
	want(t, "the last one", l[api.MaxFound-1], tooNear(115, 116, 1, 250, 0, 0))
	a = art(crowd(100, 0), crowd(10, 0), crowd(3, 0), crowd(2, 0), crowd(2, 0), crowd(2, 0))
	l, f = rules.Clear(r, a, noNets(a))
	wantWrong(t, "one more", l, f, api.ErrLarge)
	l, f = rules.All(r, a, noNets(a))
	wantWrong(t, "one more of all", l, f, api.ErrLarge)
}

// R4: the least distance of two pieces of different groups on one layer.
func TestLeast(t *testing.T) {
	const most = api.MaxGrow
	joined := two(3)
	joined.Coppers = append(joined.Coppers, region(rect(0, 0, 30, 5)))
	joined.Bores = []api.Bore{bore(2, 2, 2, 0, 1), bore(10, 2, 2, 0, 1)}
	third := joined
	third.Coppers = [][]api.Rect{region(rect(0, 0, 5, 5), rect(8, 0, 13, 5), rect(20, 0, 21, 1)), joined.Coppers[1]}
	for _, c := range []struct {
		what string
		a    api.Art
		n    int
		ok   bool
	}{
		{"no copper", art(nil), 0, false},
		{"one piece", art([]api.Rect{rect(0, 0, 5, 5)}), 0, false},
		{"pieces on different layers", art([]api.Rect{rect(0, 0, 5, 5)}, []api.Rect{rect(6, 0, 9, 9)}), 0, false},
		{"pieces of one group", joined, 0, false},
		{"a piece beside them", third, 7, true},
		{"two", two(3), 3, true},
		{"two at one corner", art([]api.Rect{rect(0, 0, 5, 5), rect(5, 5, 9, 9)}), 0, true},
		{"three", art([]api.Rect{rect(0, 0, 5, 5), rect(15, 0, 20, 5), rect(27, 0, 30, 9)}), 7, true},
		{"the nearest ones on another layer", art([]api.Rect{rect(0, 0, 5, 5), rect(15, 0, 20, 5)}, nil, []api.Rect{rect(0, 0, 1, 1), rect(2, 2, 3, 3)}), 1, true},
		{"far, but one less", art([]api.Rect{rect(0, 0, 1, 1), rect(most, 0, most+1, 1)}), most - 1, true},
		{"as far as counts", art([]api.Rect{rect(0, 0, 1, 1), rect(most+1, 0, most+2, 1)}), most, true},
		{"further", art([]api.Rect{rect(-api.MaxAt, 0, 0, 1), rect(most+2, 0, api.MaxAt, 1)}), most, true},
		{"as far as can be", art([]api.Rect{rect(-api.MaxAt, -api.MaxAt, 1-api.MaxAt, 1-api.MaxAt), rect(api.MaxAt-1, api.MaxAt-1, api.MaxAt, api.MaxAt)}), most, true},
	} {
		n, ok, f := rules.Least(c.a)
		wantGood(t, c.what, fmt.Sprint(n, ok), f, fmt.Sprint(c.n, c.ok))
	}
	n, ok, f := rules.Least(api.Art{})
	wantFault(t, "no board", f, api.ErrNone)
	want(t, "no board", fmt.Sprint(n, ok), "0 false")
}

// R3, R4: random boards hold against the model.
func TestClearModel(t *testing.T) {
	seen := 0
	tried(t, 1500, func(rnd *rand.Rand) {
		a, r := randomArt(rnd), randomRules(rnd, 5)
		nets := randomNets(rnd, a)
		m := modelOf(r, a, nets)
		l, f := rules.Clear(r, a, nets)
		wantBreaks(t, fmt.Sprintf("%+v %+v %q", r, a, nets), l, f, m.clear()...)
		seen += len(l)
		n, ok, f := rules.Least(a)
		wantedN, wantedOK := m.least()
		wantGood(t, fmt.Sprintf("%+v", a), fmt.Sprint(n, ok), f, fmt.Sprint(wantedN, wantedOK))
	})
	if seen < 1000 {
		t.Errorf("%d breaks in all", seen)
	}
}

// R3, R4: a board breaks no rule of Clear just if Least is not less than the Clearance.
func TestLeastIsClear(t *testing.T) {
	tried(t, 500, func(rnd *rand.Rand) {
		a := randomArt(rnd)
		n, ok, _ := rules.Least(a)
		if !ok {
			n = api.MaxRule
		}
		l, f := rules.Clear(api.RuleSet{Clearance: n}, a, noNets(a))
		wantBreaks(t, fmt.Sprintf("%+v", a), l, f)
		l, _ = rules.Clear(api.RuleSet{Clearance: min(n+1, api.MaxRule)}, a, noNets(a))
		if ok && len(l) == 0 {
			t.Errorf("%+v: Least is %d", a, n)
		}
	})
}
