package rules_test

import (
	"fmt"
	"math/rand/v2"
	"testing"

	"etchhouse/api"
	"etchhouse/rules"
	"etchhouse/shape"
)

// nearEdge is a break of Edges.
func nearEdge(a, is, need, x, y int) api.Break {
	return api.Break{Kind: api.BreakEdge, A: a, Is: is, Need: need, At: point(x, y)}
}

// R3: a piece at just the distance that is needed, and one less, from each side of the Outline.
func TestEdges(t *testing.T) {
	for _, c := range []struct {
		what    string
		outline api.Rect
		at      api.Point
	}{
		{"left", rect(-3, -9, 14, 14), point(0, 0)},
		{"below", rect(-9, -3, 14, 14), point(0, 0)},
		{"right", rect(-9, -9, 8, 14), point(4, 0)},
		{"above", rect(-9, -9, 14, 8), point(0, 4)},
	} {
		a := art([]api.Rect{rect(0, 0, 5, 5)})
		a.Outline = region(c.outline)
		for edge := range 4 {
			l, f := rules.Edges(api.RuleSet{Edge: edge}, a)
			wantBreaks(t, c.what, l, f)
		}
		l, f := rules.Edges(api.RuleSet{Edge: 4}, a)
		wantBreaks(t, c.what, l, f, nearEdge(0, 3, 4, c.at.X, c.at.Y))
	}
}

// R3: pieces that are not in the Outline, or at its edge.
func TestPiecesOutside(t *testing.T) {
	for _, c := range []struct {
		what    string
		outline []api.Rect
		edge    int
		want    []api.Break
	}{
		{"no outline, no edge", nil, 0, []api.Break{nearEdge(0, -1, 0, 0, 0)}},
		{"no outline", nil, 9, []api.Break{nearEdge(0, -1, 9, 0, 0)}},
		{"just the piece", []api.Rect{rect(0, 0, 5, 5)}, 0, nil},
		{"just the piece, and an edge", []api.Rect{rect(0, 0, 5, 5)}, 1, []api.Break{nearEdge(0, 0, 1, 0, 0)}},
		{"a square less", []api.Rect{rect(0, 0, 5, 4), rect(0, 4, 4, 5)}, 0, []api.Break{nearEdge(0, -1, 0, 4, 4)}},
		{"a square less, and an edge", []api.Rect{rect(-9, -9, 15, 4), rect(-9, 4, 4, 15), rect(5, 4, 15, 15), rect(4, 5, 5, 15)}, 1, []api.Break{nearEdge(0, -1, 1, 3, 3)}},
		{"a hole", []api.Rect{rect(-9, -9, 15, 8), rect(-9, 8, 8, 15), rect(9, 8, 15, 15), rect(8, 9, 9, 15)}, 4, []api.Break{nearEdge(0, 3, 4, 4, 4)}},
		{"somewhere else", []api.Rect{rect(50, 50, 90, 90)}, 3, []api.Break{nearEdge(0, -1, 3, 0, 0)}},
		{"two parts, the piece in one of them", []api.Rect{rect(-3, -3, 8, 8), rect(20, 20, 90, 90)}, 4, []api.Break{nearEdge(0, 3, 4, 0, 0)}},
		{"too much for the outline", []api.Rect{rect(-3, -3, 8, 8)}, 6, []api.Break{nearEdge(0, 3, 6, 0, 0)}},
		{"far too much", []api.Rect{rect(-3, -3, 8, 8)}, api.MaxRule, []api.Break{nearEdge(0, 3, api.MaxRule, 0, 0)}},
		{"all there is", []api.Rect{rect(-api.MaxAt, -api.MaxAt, api.MaxAt, api.MaxAt)}, api.MaxRule, nil},
	} {
		a := art([]api.Rect{rect(0, 0, 5, 5)})
		a.Outline = region(c.outline...)
		l, f := rules.Edges(api.RuleSet{Edge: c.edge}, a)
		wantBreaks(t, c.what, l, f, c.want...)
	}
}

// R3: several pieces on several layers, what bores leave of them, and copper at the end of all.
func TestEdgesOfPieces(t *testing.T) {
	a := art([]api.Rect{rect(0, 0, 5, 5), rect(97, 0, 99, 2)}, []api.Rect{rect(-98, 0, 98, 5)})
	l, f := rules.Edges(api.RuleSet{Edge: 2}, a)
	wantBreaks(t, "one", l, f, nearEdge(1, 1, 2, 98, 0))
	l, f = rules.Edges(api.RuleSet{Edge: 3}, a)
	wantBreaks(t, "two", l, f, nearEdge(1, 1, 3, 97, 0), nearEdge(2, 2, 3, -98, 0))
	a.Bores = []api.Bore{plain(98, 1, 2, 0, 0), bore(-97, 0, 2, 1, 1)}
	l, f = rules.Edges(api.RuleSet{Edge: 3}, a)
	wantBreaks(t, "drilled", l, f, nearEdge(1, 2, 3, 97, 0))
	const far = api.MaxAt
	a = art([]api.Rect{rect(-far, -far, 1-far, 1-far), rect(far-5, far-5, far-2, far-2)})
	a.Outline = region(rect(-far, -far, far, far))
	l, f = rules.Edges(api.RuleSet{Edge: 0}, a)
	wantBreaks(t, "at the end, no edge", l, f)
	l, f = rules.Edges(api.RuleSet{Edge: 3}, a)
	wantBreaks(t, "at the end", l, f, nearEdge(0, 0, 3, -far, -far), nearEdge(1, 2, 3, far-3, far-5))
}

// holed is a plate with so many holes of one square, each further to the right and higher than the one before it.
func holed(many int) []api.Rect {
	var holes []api.Rect
	for i := range many {
		holes = append(holes, rect(20*i, 2*i, 20*i+1, 2*i+1))
	}
	return shape.InFirstAlone([]api.Rect{rect(-100, -100, 20*many+100, 2*many+100)}, holes)
}

// R3: an Outline of which shape.Shrink would be too many rectangles: what breaks the rule is told all the same.
func TestEdgesOfManyHoles(t *testing.T) {
	a := api.Art{Coppers: [][]api.Rect{region(rect(30, -10, 31, 150))}, Outline: holed(600)}
	_, f := shape.Shrink(a.Outline, 9)
	wantFault(t, "Shrink", f, api.ErrLarge)
	l, f := rules.Edges(api.RuleSet{Edge: 8}, a)
	wantBreaks(t, "just so far", l, f)
	l, f = rules.Edges(api.RuleSet{Edge: 9}, a)
	wantBreaks(t, "one more", l, f)
	l, f = rules.Edges(api.RuleSet{Edge: 10}, a)
	wantBreaks(t, "two more", l, f, nearEdge(0, 9, 10, 30, -8))
}

// R3: random boards hold against the model.
func TestEdgesModel(t *testing.T) {
	seen, held, outside := 0, 0, 0
	tried(t, 1000, func(rnd *rand.Rand) {
		a, r := randomArt(rnd), randomRules(rnd, 4)
		l, f := rules.Edges(r, a)
		wantBreaks(t, fmt.Sprintf("%+v %+v", r, a), l, f, modelOf(r, a, nil).edges()...)
		seen += len(l)
		for _, b := range l {
			if b.Is < 0 {
				outside++
			}
		}
		if len(l) == 0 && r.Edge > 0 && groupsOf(a) > 0 {
			held++
		}
	})
	if seen < 1000 || outside < 100 || held < 50 {
		t.Errorf("%d breaks, %d outside, none on %d boards", seen, outside, held)
	}
}
