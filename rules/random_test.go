package rules_test

import (
	"fmt"
	"math/rand/v2"
	"slices"
	"strings"

	"etchhouse/api"
)

const side = 7 // what is random lies from -side to side

// randomRects lie around the point 0, 0.
func randomRects(rnd *rand.Rand, many, longest int) []api.Rect {
	var out []api.Rect
	for range rnd.IntN(many + 1) {
		x, y := rnd.IntN(2*side)-side, rnd.IntN(2*side)-side
		out = append(out, rect(x, y, min(side, x+1+rnd.IntN(longest)), min(side, y+1+rnd.IntN(longest))))
	}
	return out
}

// randomArt has copper anywhere.
func randomArt(rnd *rand.Rand) api.Art {
	layers := 1 + rnd.IntN(3)
	outline := append(randomRects(rnd, 3, side), rect(rnd.IntN(5)-side-2, rnd.IntN(5)-side-2, side+2-rnd.IntN(5), side+2-rnd.IntN(5)))
	a := api.Art{Outline: region(outline...)}
	if rnd.IntN(20) == 0 {
		a.Outline = nil
	}
	for range layers {
		a.Coppers = append(a.Coppers, region(randomRects(rnd, 6, 5)...))
	}
	for range rnd.IntN(7) {
		from := rnd.IntN(layers)
		b := bore(rnd.IntN(2*side)-side, rnd.IntN(2*side)-side, 1+rnd.IntN(4), from, from+rnd.IntN(layers-from))
		b.Plated = rnd.IntN(4) > 0
		a.Bores = append(a.Bores, b)
	}
	a.Bores = fitting(a.Bores)
	return a
}

// fitting are those bores that have no square in common with one before them.
func fitting(bores []api.Bore) []api.Bore {
	var out []api.Bore
	for _, b := range bores {
		clashes := func(c api.Bore) bool {
			return slices.ContainsFunc(boreSpots(b), func(s spot) bool { return slices.Contains(boreSpots(c), s) })
		}
		if !slices.ContainsFunc(out, clashes) {
			out = append(out, b)
		}
	}
	return out
}

// netNames are those of random nets; more of them are in no class.
func netNames() []string {
	return strings.Fields("a a/b b c d e")
}

// randomNets are as many as groups of a board.
func randomNets(rnd *rand.Rand, a api.Art) []string {
	out := noNets(a)
	for i := range out {
		if names := netNames(); rnd.IntN(4) > 0 {
			out[i] = names[rnd.IntN(len(names))]
		}
	}
	return out
}

// randomRules have no number above most.
func randomRules(rnd *rand.Rand, most int) api.RuleSet {
	number := func() int { return rnd.IntN(most + 1) }
	r := api.RuleSet{Clearance: number(), Width: number(), Ring: number(), Edge: number(), HoleGap: number()}
	names := netNames()
	for i := range rnd.IntN(4) {
		c := api.NetClass{Name: fmt.Sprint("class", i), Clearance: number(), Width: number()}
		for range rnd.IntN(2) + rnd.IntN(2) {
			if len(names) > 0 {
				c.Nets = append(c.Nets, names[0])
				names = names[1+rnd.IntN(len(names)):]
			}
		}
		r.Classes = append(r.Classes, c)
	}
	if rnd.IntN(3) == 0 {
		return r
	}
	for range rnd.IntN(4) {
		r.Areas = append(r.Areas, area(rnd.IntN(4)-1, number(), randomRects(rnd, 3, 2*side)...))
	}
	return r
}
