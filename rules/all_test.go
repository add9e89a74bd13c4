package rules_test

import (
	"fmt"
	"math/rand/v2"
	"testing"

	"etchhouse/api"
	"etchhouse/rules"
)

// nearHole is a break of HoleGaps.
func nearHole(a, b, is, need, x, y int) api.Break {
	return api.Break{Kind: api.BreakHole, A: a, B: b, Is: is, Need: need, At: point(x, y)}
}

// R3: two bores at just the distance that is needed, and one less.
func TestHoleGaps(t *testing.T) {
	for _, c := range []struct {
		what string
		b    api.Bore
		gap  int
	}{
		{"at the right", bore(7, 0, 4, 0, 0), 3}, {"at the left", bore(-7, 0, 4, 0, 0), 3}, {"above", bore(0, 7, 4, 0, 0), 3}, {"below", bore(0, -7, 4, 0, 0), 3},
		{"of an odd size", bore(6, 0, 3, 0, 0), 3}, {"further above than to the right", bore(5, 9, 4, 0, 0), 5}, {"at a side", bore(4, 0, 4, 0, 0), 0}, {"at a corner", bore(4, 4, 4, 0, 0), 0},
		{"not plated", plain(7, 0, 4, 0, 0), 3}, {"far", bore(1000+4, 0, 4, 0, 0), 1000},
	} {
		a := art(nil)
		a.Bores = []api.Bore{bore(0, 0, 4, 0, 0), c.b}
		l, f := rules.HoleGaps(api.RuleSet{HoleGap: c.gap}, a)
		wantBreaks(t, c.what, l, f)
		l, f = rules.HoleGaps(api.RuleSet{HoleGap: c.gap + 1}, a)
		wantBreaks(t, c.what, l, f, nearHole(0, 1, c.gap, c.gap+1, -2, -2))
		l, f = rules.HoleGaps(api.RuleSet{HoleGap: api.MaxRule}, a)
		wantBreaks(t, c.what, l, f, nearHole(0, 1, c.gap, api.MaxRule, -2, -2))
		a.Bores[0].Plated = false
		l, f = rules.HoleGaps(api.RuleSet{HoleGap: c.gap + 1}, a)
		wantBreaks(t, c.what+", beside one that is not plated", l, f, nearHole(0, 1, c.gap, c.gap+1, -2, -2))
	}
}

// R3: only bores that go through a common copper count.
func TestHoleGapsOfSpans(t *testing.T) {
	for _, c := range []struct {
		from, to, otherFrom, otherTo int
		want                         bool
	}{
		{0, 0, 1, 1, false}, {0, 1, 2, 3, false}, {2, 3, 0, 1, false}, {0, 1, 1, 2, true}, {1, 2, 0, 1, true}, {0, 3, 1, 2, true}, {1, 1, 0, 3, true}, {0, 0, 3, 3, false}, {2, 2, 2, 2, true},
	} {
		a := art(nil, nil, nil, nil)
		a.Bores = []api.Bore{bore(0, 0, 2, c.from, c.to), bore(3, 0, 2, c.otherFrom, c.otherTo)}
		l, f := rules.HoleGaps(api.RuleSet{HoleGap: 2}, a)
		if c.want {
			wantBreaks(t, fmt.Sprint(c), l, f, nearHole(0, 1, 1, 2, -1, -1))
		} else {
			wantBreaks(t, fmt.Sprint(c), l, f)
		}
	}
	a := art(nil, nil)
	a.Bores = []api.Bore{bore(0, 0, 2, 0, 0), bore(0, 0, 2, 1, 1)}
	l, f := rules.HoleGaps(api.RuleSet{HoleGap: api.MaxRule}, a)
	wantBreaks(t, "one below the other", l, f)
}

// holes are so many bores in a row through a layer, from a height on.
func holes(many, y, layer int) []api.Bore {
	var out []api.Bore
	for i := range many {
		out = append(out, bore(2*i, y, 1, layer, layer))
	}
	return out
}

// R3: as many breaks as can be told, and one more.
func TestMostHoleGaps(t *testing.T) {
	a := art(nil, nil, nil, nil, nil)
	for layer, many := range []int{100, 10, 3, 2, 2} { // 4950, 45, 3, 1 and 1 pairs
		a.Bores = append(a.Bores, holes(many, 0, layer)...)
	}
	r := api.RuleSet{HoleGap: 250}
	l, f := rules.HoleGaps(r, a)
	wantFault(t, "as many as can be", f, api.OK)
	want(t, "as many as can be", len(l), api.MaxFound)
	want(t, "the last one", l[api.MaxFound-1], nearHole(115, 116, 1, 250, 0, 0))
	l, f = rules.All(r, a, noNets(a))
	wantFault(t, "as many as can be of all", f, api.OK)
	want(t, "as many as can be of all", len(l), api.MaxFound)
	a.Bores = append(a.Bores, bore(500, 0, 1, 0, 4), bore(502, 0, 1, 0, 4))
	l, f = rules.HoleGaps(r, a)
	wantWrong(t, "more", l, f, api.ErrLarge)
	a.Bores = append(a.Bores[:len(a.Bores)-2], bore(1000, 0, 1, 0, 0), bore(1002, 0, 1, 4, 4))
	l, f = rules.HoleGaps(r, a)
	wantFault(t, "more, far away", f, api.OK)
	want(t, "more, far away", len(l), api.MaxFound)
	a.Bores[len(a.Bores)-1].From = 0
	l, f = rules.HoleGaps(r, a)
	wantWrong(t, "one more", l, f, api.ErrLarge)
}

// R3: kinds that can be told one by one, but not together.
func TestMostOfAll(t *testing.T) {
	a := art(crowd(99, 0)) // 4851 pairs, 99 narrow pieces
	a.Outline = region(rect(-9, -9, 2000, 90))
	a.Bores = holes(10, 50, 0)
	r := api.RuleSet{Clearance: 250, Width: 2, HoleGap: 250}
	told := func(what string, l []api.Break, f api.Fault, many int) {
		t.Helper()
		wantFault(t, what, f, api.OK)
		want(t, what, len(l), many)
	}
	l, f := rules.All(r, a, noNets(a))
	told("fewer", l, f, 4851+99+45)
	a.Bores = append(a.Bores, bore(1000, 0, 1, 0, 0), bore(1002, 0, 1, 0, 0), bore(1004, 0, 1, 0, 0))
	l, f = rules.All(r, a, noNets(a))
	told("fewer", l, f, 4851+99+45+3)
	a.Outline = region(rect(-9, -9, 180, 90))
	l, f = rules.All(r, a, noNets(a))
	wantWrong(t, "too many together", l, f, api.ErrLarge)
	a.Outline = region(rect(-9, -9, 193, 90))
	l, f = rules.All(r, a, noNets(a))
	told("as many as can be", l, f, api.MaxFound)
	a.Outline = region(rect(-9, -9, 191, 90))
	l, f = rules.All(r, a, noNets(a))
	wantWrong(t, "one more", l, f, api.ErrLarge)
	l, f = rules.Clear(r, a, noNets(a))
	told("Clear", l, f, 4851)
	l, f = rules.Narrow(r, a, noNets(a))
	told("Narrow", l, f, 99)
	l, f = rules.Edges(r, a)
	told("Edges", l, f, 3)
	l, f = rules.HoleGaps(r, a)
	told("HoleGaps", l, f, 48)
	a = art(crowd(100, 0)) // 4950 pairs, 100 narrow pieces
	l, f = rules.All(r, a, noNets(a))
	wantWrong(t, "too many with the narrow ones", l, f, api.ErrLarge)
	a = art(crowd(99, 0))
	a.Outline = nil
	l, f = rules.All(r, a, noNets(a))
	wantWrong(t, "too many with those at the edge", l, f, api.ErrLarge)
}

// R3: All tells what breaks a rule in the order of kinds.
func TestAll(t *testing.T) {
	l, f := rules.All(someRules(), some(), someNets())
	wantBreaks(t, "some", l, f,
		tooNear(4, 5, 3, 7, 29, 0),
		tooNarrow(0, 2, 3, 0, 0), tooNarrow(1, 2, 3, 6, 0), tooNarrow(2, 4, 5, 20, 0), tooNarrow(4, 4, 5, 24, 0),
		openRing(0, 0, 0, 2, 2, -2), openRing(3, 0, 0, 2, 30, 2), openRing(3, 1, 0, 2, 30, 2),
		nearEdge(3, 2, 5, 47, 0), nearEdge(5, 2, 5, 47, 0),
		nearHole(1, 3, 4, 6, 24, 4))
	l, f = rules.All(api.RuleSet{}, some(), someNets())
	wantBreaks(t, "no rules", l, f)
	l, f = rules.All(someRules(), api.Art{Coppers: make([][]api.Rect, 1)}, nil)
	wantBreaks(t, "nothing", l, f)
}

// R3: All is what the others tell, and random boards hold against the model.
func TestAllModel(t *testing.T) {
	tried(t, 500, func(rnd *rand.Rand) {
		a, r := randomArt(rnd), randomRules(rnd, 4)
		nets := randomNets(rnd, a)
		m := modelOf(r, a, nets)
		what := fmt.Sprintf("%+v %+v %q", r, a, nets)
		l, f := rules.All(r, a, nets)
		wantBreaks(t, what, l, f, m.all()...)
		l, f = rules.HoleGaps(r, a)
		wantBreaks(t, what, l, f, m.holeGaps()...)
	})
}

// R3: the first faults are those of rules, then those of the board.
func TestFaultsOfBreaks(t *testing.T) {
	badRules, badArt := api.RuleSet{Width: -1}, some()
	badArt.Bores[0].Size, badArt.Outline = 1, []api.Rect{{}}
	for name, f := range map[string]func(api.RuleSet, api.Art) ([]api.Break, api.Fault){"Rings": rules.Rings, "Edges": rules.Edges, "HoleGaps": rules.HoleGaps} {
		l, fault := f(badRules, badArt)
		wantWrong(t, name, l, fault, api.ErrRange)
		l, fault = f(someRules(), badArt)
		wantWrong(t, name, l, fault, api.ErrZero)
	}
	for name, f := range withNets() {
		l, fault := f(badRules, badArt, []string{"?"})
		wantWrong(t, name, l, fault, api.ErrRange)
		l, fault = f(someRules(), badArt, []string{"?"})
		wantWrong(t, name, l, fault, api.ErrZero)
		l, fault = f(someRules(), some(), []string{"?"})
		wantWrong(t, name, l, fault, api.ErrForm)
		l, fault = f(someRules(), some(), []string{"a", "?", "", "/"})
		wantWrong(t, name, l, fault, api.ErrName)
	}
	n, ok, fault := rules.Least(badArt)
	wantWrong(t, "Least", n, fault, api.ErrZero)
	wantWrong(t, "Least", ok, fault, api.ErrZero)
}
