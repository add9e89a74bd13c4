package drill_test

import (
	"fmt"
	"math/rand/v2"
	"slices"
	"testing"

	"etchhouse/api"
	"etchhouse/drill"
)

// D1: sizes, each once, in order.
func TestSizes(t *testing.T) {
	for _, l := range []struct {
		holes string
		want  []int
	}{
		{"", nil}, {"0,0,7,1", []int{7}}, {"0,0,7,1 5,5,7,9,p", []int{7}},
		{"0,0,9,1 0,0,10,1 0,0,2,1 0,0,10,1 0,0,9,1", []int{2, 9, 10}},
		{"0,0,10000,1 0,0,1,1", []int{1, 10000}},
	} {
		n, f := drill.Sizes(holes(l.holes))
		wantGood(t, l.holes, n, f, l.want)
	}
	all := row(api.MaxHoles)
	var expected []int
	for i := range all {
		all[len(all)-1-i].Size = 5 * (i + 1)
		expected = append(expected, 5*(i+1))
	}
	n, f := drill.Sizes(all)
	wantGood(t, "as many as can be", n, f, expected)
}

// D3: holes at whose point an earlier one is.
func TestRepeated(t *testing.T) {
	for _, l := range []struct {
		holes string
		want  []int
	}{
		{"", nil}, {"0,0,1,1", nil}, {"0,0,1,1 0,1,1,1 1,0,1,1 1,1,1,1", nil},
		{"0,0,1,1 0,0,1,1", []int{1}}, {"3,4,1,1 3,4,9,9,p", []int{1}}, {"3,4,1,1 4,3,1,1 -3,4,1,1", nil},
		{"5,5,1,1 0,0,1,1 5,5,1,1 0,0,1,1 5,5,1,1 1,0,1,1", []int{2, 3, 4}},
		{"0,0,300,1 1,1,300,1", nil}, // they lie over one another, but are not at one point
	} {
		n, f := drill.Repeated(holes(l.holes))
		wantGood(t, l.holes, n, f, l.want)
	}
	all := slices.Repeat(row(1), api.MaxHoles)
	n, f := drill.Repeated(all)
	wantGood(t, "all at one point", len(n), f, api.MaxHoles-1)
}

// D3: random holes: those before which there is one at the same point.
func TestRandomRepeated(t *testing.T) {
	tried(t, 1000, func(rnd *rand.Rand) {
		l := randomHoles(rnd, rnd.IntN(15), 1+rnd.IntN(3), 3)
		var expected []int
		for i, h := range l {
			if slices.ContainsFunc(l[:i], func(other api.Hole) bool { return other.At == h.At }) {
				expected = append(expected, i)
			}
		}
		n, f := drill.Repeated(l)
		wantGood(t, fmt.Sprintf("%+v", l), n, f, expected)
	})
}

// D3: holes that are too near.
func TestNear(t *testing.T) {
	for _, l := range []struct {
		what, holes string
		below       int
		want        []api.Pair
	}{
		{"no holes", "", 10000, nil}, {"one hole", "0,0,1,1", 10000, nil},
		{"just the number", "0,0,4,1 10,0,4,1", 6, nil},
		{"just below it", "0,0,4,1 10,0,4,1", 7, []api.Pair{{B: 1, Distance: 6}}},
		{"an odd sum: half of it is rounded down", "0,0,4,1 10,0,5,1", 6, nil},
		{"just below it", "0,0,5,1 10,0,4,1", 7, []api.Pair{{B: 1, Distance: 6}}},
		{"two odd sizes make an even sum", "0,0,5,1 10,0,5,1", 6, []api.Pair{{B: 1, Distance: 5}}},
		{"the least sizes", "0,0,1,1 2,0,1,1", 2, []api.Pair{{B: 1, Distance: 1}}},
		{"one of them rounded to none", "0,0,1,1 1,0,2,1", 1, []api.Pair{{B: 1}}},
		{"along Y", "0,0,4,1 0,-10,4,1", 7, []api.Pair{{B: 1, Distance: 6}}},
		{"more along X than along Y", "0,0,4,1 -10,9,4,1", 10000, []api.Pair{{B: 1, Distance: 6}}},
		{"more along Y than along X", "0,0,4,1 8,9,4,1", 10000, []api.Pair{{B: 1, Distance: 5}}},
		{"they touch", "0,0,4,1 4,4,4,1", 1, []api.Pair{{B: 1}}},
		{"one over the other", "0,0,40,1 4,4,40,1", 1, []api.Pair{{B: 1}}},
		{"below 0 there is nothing", "0,0,40,1 4,4,40,1", 0, nil},
		{"at one point", "7,7,4,1 7,7,9,5,p", 10000, nil},
		{"some", "7,7,4,1 0,0,4,1 7,7,9,5,p 0,9,2,1", 6, []api.Pair{{A: 0, B: 1, Distance: 3}, {A: 0, B: 3, Distance: 4}, {A: 1, B: 2, Distance: 1}, {A: 2, B: 3, Distance: 2}}},
		{"as far as can be", "-1000000,0,1,1 1000000,0,1,1", 10000, nil},
		{"the greatest number", "0,0,10000,1 19999,0,10000,1 20000,0,10000,1", 10000, []api.Pair{{A: 0, B: 1, Distance: 9999}, {A: 1, B: 2}}},
	} {
		p, f := drill.Near(holes(l.holes), l.below)
		wantGood(t, l.what, p, f, l.want)
	}
}

// D3: the numbers that can be asked for.
func TestBelow(t *testing.T) {
	for below, expected := range map[int]api.Fault{-1: api.ErrRange, 0: api.OK, api.MaxHoleSize: api.OK, api.MaxHoleSize + 1: api.ErrRange} {
		p, f := drill.Near(holes("0,0,1,1"), below)
		wantWrong(t, fmt.Sprint(below), f, expected, p)
		p, f = drill.Near(nil, below)
		wantWrong(t, fmt.Sprint(below), f, expected, p)
	}
}

// D3: random holes hold against the model.
func TestRandomNear(t *testing.T) {
	tried(t, 2000, func(rnd *rand.Rand) {
		l := randomHoles(rnd, rnd.IntN(12), 1+rnd.IntN(30), 1+rnd.IntN(12))
		below := rnd.IntN(20)
		p, f := drill.Near(l, below)
		wantGood(t, fmt.Sprintf("%+v %d", l, below), p, f, nearModel(l, below))
	})
}

// D3: as many pairs as there can be.
func TestAllNear(t *testing.T) {
	l := row(api.MaxHoles)
	p, f := drill.Near(l, api.MaxHoleSize)
	wantGood(t, "all", len(p), f, api.MaxHoles*(api.MaxHoles-1)/2)
	for _, one := range []api.Pair{{A: 0, B: 1}, {A: 5, B: 9, Distance: 3}, {A: 0, B: 1999, Distance: 1998}} {
		if !slices.Contains(p, one) {
			t.Errorf("no pair %+v", one)
		}
	}
	if !slices.IsSortedFunc(p, func(a, b api.Pair) int { return (a.A-b.A)*api.MaxHoles + a.B - b.B }) {
		t.Error("no order")
	}
}
