package rules_test

import (
	"fmt"
	"math"
	"math/rand/v2"
	"slices"
	"testing"

	"etchhouse/api"
	"etchhouse/rules"
)

// tooNarrow is a break of Narrow.
func tooNarrow(a, is, need, x, y int) api.Break {
	return api.Break{Kind: api.BreakWidth, A: a, Is: is, Need: need, At: point(x, y)}
}

// R3: a strip, and strips beside wider copper.
func TestThin(t *testing.T) {
	strip := region(rect(0, 0, 10, 2))
	flag := region(rect(0, 0, 2, 20), rect(2, 10, 12, 20))
	frame := region(rect(0, 0, 10, 2), rect(0, 2, 3, 10), rect(8, 2, 10, 10), rect(0, 10, 10, 14))
	for _, c := range []struct {
		what  string
		r     []api.Rect
		width int
		want  []api.Rect
	}{
		{"nothing", nil, 5, nil},
		{"a strip for 0", strip, 0, nil}, {"a strip for 1", strip, 1, nil}, {"a strip for 2", strip, 2, nil}, {"a strip for 3", strip, 3, strip}, {"a strip for all", strip, api.MaxRule, strip},
		{"a flag for 2", flag, 2, nil}, {"a flag for 3", flag, 3, region(rect(0, 0, 2, 10))}, {"a flag for 10", flag, 10, region(rect(0, 0, 2, 10))}, {"a flag for 11", flag, 11, flag},
		{"a frame for 2", frame, 2, nil},
		{"a frame for 3", frame, 3, region(rect(3, 0, 10, 2), rect(8, 2, 10, 10))},
		{"a frame for 4", frame, 4, region(rect(0, 0, 10, 2), rect(0, 2, 3, 10), rect(8, 2, 10, 10))},
		{"a frame for 5", frame, 5, frame},
		{"corners that touch for 2", region(rect(0, 0, 2, 2), rect(2, 2, 3, 3)), 2, region(rect(2, 2, 3, 3))},
		{"several pieces", region(rect(0, 0, 4, 4), rect(10, 0, 13, 9), rect(20, 0, 29, 3)), 4, region(rect(10, 0, 13, 9), rect(20, 0, 29, 3))},
		{"all for all", region(rect(-api.MaxAt, -api.MaxAt, api.MaxAt, api.MaxAt)), api.MaxRule, nil},
		{"as wide as can be asked", region(rect(0, 0, api.MaxRule, api.MaxRule)), api.MaxRule, nil},
		{"one less", region(rect(0, 0, api.MaxRule-1, api.MaxRule)), api.MaxRule, region(rect(0, 0, api.MaxRule-1, api.MaxRule))},
	} {
		l, f := rules.Thin(c.r, c.width)
		wantGood(t, c.what, l, f, c.want)
	}
}

// R3: faults of Thin, in their order.
func TestFaultsOfThin(t *testing.T) {
	for _, width := range []int{-1, 1, api.MaxRule + 1} {
		for _, bad := range badRegions() {
			l, f := rules.Thin(bad.r, width)
			wantWrong(t, bad.what, l, f, bad.fault)
		}
	}
	for _, width := range []int{-1, api.MaxRule + 1, math.MinInt, math.MaxInt} {
		l, f := rules.Thin(region(rect(0, 0, 1, 1)), width)
		wantWrong(t, fmt.Sprint(width), l, f, api.ErrRange)
		l, f = rules.Thin(nil, width)
		wantWrong(t, fmt.Sprint(width), l, f, api.ErrRange)
	}
}

// diamond has so many rows, even in number: each is wider than the one before it, then less wide.
func diamond(rows int) []api.Rect {
	var out []api.Rect
	half := rows / 2
	for y := range half {
		out = append(out, rect(-y-1, y, y+1, y+1))
	}
	out[half-1].Y1++
	for y := half + 1; y < rows; y++ {
		out = append(out, rect(y-rows, y, rows-y, y+1))
	}
	return out
}

// R3: thin squares at both sides are more rectangles than the region has. Single squares above bring their number to the bound, and past it.
func TestThinAtBounds(t *testing.T) {
	const rows, width, ofDiamond = 1336, 668, 1996
	with := func(single int) []api.Rect {
		return slices.Concat(diamond(rows), strips(single, 0, rows+9, rows+10))
	}
	l, f := rules.Thin(with(api.MaxRects-ofDiamond), width)
	wantFault(t, "at the bound", f, api.OK)
	want(t, "at the bound", len(l), api.MaxRects)
	d := with(api.MaxRects - ofDiamond + 1)
	l, f = rules.Thin(d, width)
	wantWrong(t, "past the bound", l, f, api.ErrLarge)
	l, f = rules.Thin(d, 2*rows)
	wantGood(t, "thin everywhere", l, f, d)
	a := api.Art{Coppers: [][]api.Rect{diamond(rows + 6)}}
	l, f = rules.Thin(a.Coppers[0], width+2)
	wantWrong(t, "one piece past the bound", l, f, api.ErrLarge)
	breaks, f := rules.Narrow(api.RuleSet{Width: width + 2}, a, noNets(a))
	wantBreaks(t, "Narrow needs no region of them", breaks, f, tooNarrow(0, 2, width+2, -1, 0))
	a = api.Art{Coppers: make([][]api.Rect, 1), Outline: region(rect(-2*rows, -2*rows, 2*rows, 2*rows))}
	fits, f := rules.Fits(api.RuleSet{Width: width}, a, nil, "n", 0, d)
	wantGood(t, "nor does Fits", fits, f, false)
	fits, f = rules.Fits(api.RuleSet{Width: 1}, a, nil, "n", 0, d)
	wantGood(t, "Fits for less", fits, f, true)
}

// R3: pieces that are thin somewhere, and by how much.
func TestNarrow(t *testing.T) {
	a := art([]api.Rect{rect(0, 0, 10, 2), rect(0, 20, 2, 40), rect(2, 30, 12, 40), rect(20, 0, 30, 10)}, []api.Rect{rect(0, 0, 3, 3)})
	for _, c := range []struct {
		width int
		want  []api.Break
	}{
		{0, nil}, {1, nil}, {2, nil},
		{3, []api.Break{tooNarrow(0, 2, 3, 0, 0), tooNarrow(2, 2, 3, 0, 20)}},
		{4, []api.Break{tooNarrow(0, 2, 4, 0, 0), tooNarrow(2, 2, 4, 0, 20), tooNarrow(3, 3, 4, 0, 0)}},
		{11, []api.Break{tooNarrow(0, 2, 11, 0, 0), tooNarrow(1, 10, 11, 20, 0), tooNarrow(2, 2, 11, 0, 20), tooNarrow(3, 3, 11, 0, 0)}},
		{api.MaxRule, []api.Break{tooNarrow(0, 2, api.MaxRule, 0, 0), tooNarrow(1, 10, api.MaxRule, 20, 0), tooNarrow(2, 2, api.MaxRule, 0, 20), tooNarrow(3, 3, api.MaxRule, 0, 0)}},
	} {
		l, f := rules.Narrow(api.RuleSet{Width: c.width}, a, noNets(a))
		wantBreaks(t, fmt.Sprint(c.width), l, f, c.want...)
	}
}

// R3: the width is that of the net's class.
func TestNarrowOfClasses(t *testing.T) {
	a := two(3)
	r := api.RuleSet{Width: 5, Classes: []api.NetClass{class("less b", 0, 2), class("more a", 0, 6), class("same c", 9, 0)}}
	l, f := rules.Narrow(r, a, []string{"a", "b"})
	wantBreaks(t, "more", l, f, tooNarrow(0, 5, 6, 0, 0))
	l, f = rules.Narrow(r, a, []string{"c", "a"})
	wantBreaks(t, "more", l, f, tooNarrow(1, 5, 6, 8, 0))
	l, f = rules.Narrow(r, a, []string{"c", ""})
	wantBreaks(t, "as all", l, f)
	r.Width = 6
	l, f = rules.Narrow(r, a, []string{"c", ""})
	wantBreaks(t, "less than all", l, f, tooNarrow(0, 5, 6, 0, 0), tooNarrow(1, 5, 6, 8, 0))
	l, f = rules.Narrow(r, a, []string{"b", "b"})
	wantBreaks(t, "less", l, f)
	r.Width = 0
	l, f = rules.Narrow(r, a, []string{"c", "a"})
	wantBreaks(t, "a width of 0 for all", l, f, tooNarrow(1, 5, 6, 8, 0))
}

// R3: widths are those of what bores leave; of thin squares the first one by Y, then X, is told.
func TestNarrowBesideBores(t *testing.T) {
	a := art([]api.Rect{rect(0, 0, 10, 10)})
	a.Bores = []api.Bore{plain(5, 5, 4, 0, 0)}
	l, f := rules.Narrow(api.RuleSet{Width: 3}, a, noNets(a))
	wantBreaks(t, "wide enough", l, f)
	l, f = rules.Narrow(api.RuleSet{Width: 4}, a, noNets(a))
	wantBreaks(t, "around a bore", l, f, tooNarrow(0, 3, 4, 0, 0))
	a.Bores[0].At.Y = 8
	l, f = rules.Narrow(api.RuleSet{Width: 4}, a, noNets(a))
	wantBreaks(t, "at its sides", l, f, tooNarrow(0, 3, 4, 0, 6))
}

// R3: random regions and boards hold against the model.
func TestNarrowModel(t *testing.T) {
	seen := 0
	tried(t, 700, func(rnd *rand.Rand) {
		r := region(randomRects(rnd, 8, 6)...)
		width := rnd.IntN(7)
		l, f := rules.Thin(r, width)
		wantGood(t, fmt.Sprint(r, width), l, f, squaresOf(r...).thin(width).region())
		a, rule := randomArt(rnd), randomRules(rnd, 5)
		nets := randomNets(rnd, a)
		breaks, f := rules.Narrow(rule, a, nets)
		wantBreaks(t, fmt.Sprintf("%+v %+v %q", rule, a, nets), breaks, f, modelOf(rule, a, nets).narrow()...)
		seen += len(breaks)
	})
	if seen < 500 {
		t.Errorf("%d breaks in all", seen)
	}
}
