package rules_test

import (
	"fmt"
	"math"
	"math/rand/v2"
	"slices"
	"strings"
	"testing"

	"etchhouse/api"
	"etchhouse/rules"
)

// longWord has as many bytes as a word can have, and longPath as many as a path.
func longWord() string { return strings.Repeat("x", api.MaxName) }

func longPath() string {
	return strings.Repeat(longWord()+"/", 4) + strings.Repeat("x", api.MaxPath-4*(api.MaxName+1))
}

// manyNets are in order.
func manyNets(many int) []string {
	var out []string
	for i := range many {
		out = append(out, fmt.Sprintf("n%04d", i))
	}
	return out
}

// manyClasses are in order.
func manyClasses(many int) []api.NetClass {
	var out []api.NetClass
	for i := range many {
		out = append(out, class(fmt.Sprintf("c%02d m%02d", i, i), 1, 1))
	}
	return out
}

// manyAreas have so many rectangles each.
func manyAreas(many, rects int) []api.RuleArea {
	return slices.Repeat([]api.RuleArea{{Layer: -1, Region: strips(rects, 0, 0, 1)}}, many)
}

// R1: rules without faults, at each bound.
func TestRules(t *testing.T) {
	const most = api.MaxRule
	for _, c := range []struct {
		what string
		r    api.RuleSet
	}{
		{"nothing", api.RuleSet{}},
		{"some", someRules()},
		{"the greatest numbers", api.RuleSet{Clearance: most, Width: most, Ring: most, Edge: most, HoleGap: most}},
		{"as many classes as can be", api.RuleSet{Classes: manyClasses(api.MaxClasses)}},
		{"as many nets as can be", api.RuleSet{Classes: []api.NetClass{{Name: "a", Nets: manyNets(api.MaxNets)}, {Name: "b", Nets: []string{"x"}}}}},
		{"a class without nets", api.RuleSet{Classes: []api.NetClass{{Name: "+-_#9"}}}},
		{"the greatest numbers of a class", api.RuleSet{Classes: []api.NetClass{class("a n", most, most)}}},
		{"long names", api.RuleSet{Classes: []api.NetClass{{Name: longWord(), Nets: []string{"a/b+/c-#", longPath()}}}}},
		{"a net with the name of a class", api.RuleSet{Classes: []api.NetClass{class("a b", 1, 1), class("b a", 1, 1)}}},
		{"byte by byte", api.RuleSet{Classes: []api.NetClass{class("A z zz", 0, 0), class("a Z z/", 0, 0)}[:1]}},
		{"as many areas as can be", api.RuleSet{Areas: manyAreas(api.MaxAreas, api.MaxRects/api.MaxAreas)}},
		{"one area of all rectangles", api.RuleSet{Areas: manyAreas(1, api.MaxRects)}},
		{"areas of nothing", api.RuleSet{Areas: []api.RuleArea{{}, {Layer: -1}}}},
		{"an area on the last layer", api.RuleSet{Areas: []api.RuleArea{area(api.MaxCoppers-1, most, rect(-api.MaxAt, -api.MaxAt, api.MaxAt, api.MaxAt))}}},
		{"areas over one another", api.RuleSet{Areas: []api.RuleArea{area(-1, 1, rect(0, 0, 2, 2)), area(0, 2, rect(0, 0, 2, 2)), area(0, 2, rect(0, 0, 2, 2))}}},
	} {
		wantFault(t, c.what, rules.CheckRules(c.r), api.OK)
	}
}

// breach makes a fault in rules; it stays if others are made behind it.
type breach struct {
	what  string
	fault api.Fault
	do    func(r *api.RuleSet)
}

// breaches are all faults of CheckRules, in its order, in rules of two classes and two areas. Rules with two of them have that of the first one.
func breaches() []breach {
	return slices.Concat(breachesOfNumbers(), breachesOfClasses(), breachesOfAreas())
}

func breachesOfNumbers() []breach {
	var out []breach
	for _, n := range []int{-1, api.MaxRule + 1, math.MinInt, math.MaxInt} {
		one := func(what string, number func(r *api.RuleSet) *int) {
			out = append(out, breach{fmt.Sprint(what, " ", n), api.ErrRange, func(r *api.RuleSet) { *number(r) = n }})
		}
		one("Clearance", func(r *api.RuleSet) *int { return &r.Clearance })
		one("Width", func(r *api.RuleSet) *int { return &r.Width })
		one("Ring", func(r *api.RuleSet) *int { return &r.Ring })
		one("Edge", func(r *api.RuleSet) *int { return &r.Edge })
		one("HoleGap", func(r *api.RuleSet) *int { return &r.HoleGap })
	}
	return out
}

func breachesOfClasses() []breach {
	out := []breach{{"too many classes", api.ErrLarge, func(r *api.RuleSet) {
		r.Classes = append(r.Classes, make([]api.NetClass, api.MaxClasses)...)
	}}}
	for _, at := range []int{0, 1} {
		one := func(what string, fault api.Fault, do func(c *api.NetClass)) {
			out = append(out, breach{fmt.Sprint(what, " of class ", at), fault, func(r *api.RuleSet) { do(&r.Classes[at]) }})
		}
		for _, name := range []string{"", "a/b", "a b", "a.", "\xc3\xa4", longWord() + "x"} {
			one("the name "+name, api.ErrName, func(c *api.NetClass) { c.Name = name })
		}
		one("too many nets", api.ErrLarge, func(c *api.NetClass) { c.Nets = make([]string, api.MaxNets+1) })
		for _, name := range []string{"", "/", "a/", "a//b", "a b", "a.b", longPath() + "x"} {
			one("the first net "+name, api.ErrName, func(c *api.NetClass) { c.Nets[0] = name })
		}
		if at == 1 {
			one("an earlier class's net, the first", api.ErrTwice, func(c *api.NetClass) { c.Nets[0] = "a2" })
		}
		one("the second net", api.ErrName, func(c *api.NetClass) { c.Nets[1] = "?" })
		one("the order of nets", api.ErrOrder, func(c *api.NetClass) { c.Nets[1] = "A" })
		one("a net twice", api.ErrOrder, func(c *api.NetClass) { c.Nets[1] = c.Nets[0] })
		for _, n := range []int{-1, api.MaxRule + 1, math.MinInt, math.MaxInt} {
			one(fmt.Sprint("Clearance ", n), api.ErrRange, func(c *api.NetClass) { c.Clearance = n })
			one(fmt.Sprint("Width ", n), api.ErrRange, func(c *api.NetClass) { c.Width = n })
		}
	}
	for _, name := range []string{"A", "one"} {
		out = append(out, breach{"the order of classes: " + name, api.ErrOrder, func(r *api.RuleSet) { r.Classes[1].Name = name }})
	}
	return out
}

func breachesOfAreas() []breach {
	out := []breach{{"too many areas", api.ErrLarge, func(r *api.RuleSet) {
		r.Areas = append(r.Areas, slices.Repeat([]api.RuleArea{{Layer: -9}}, api.MaxAreas)...)
	}}}
	for _, at := range []int{0, 1} {
		one := func(what string, fault api.Fault, do func(a *api.RuleArea)) {
			out = append(out, breach{fmt.Sprint(what, " of area ", at), fault, func(r *api.RuleSet) { do(&r.Areas[at]) }})
		}
		for _, n := range []int{-2, api.MaxCoppers, math.MinInt, math.MaxInt} {
			one(fmt.Sprint("Layer ", n), api.ErrRange, func(a *api.RuleArea) { a.Layer = n })
		}
		for _, bad := range badRegions() {
			one(bad.what, bad.fault, func(a *api.RuleArea) { a.Region = bad.r })
		}
		for _, n := range []int{-1, api.MaxRule + 1, math.MinInt, math.MaxInt} {
			one(fmt.Sprint("Clearance ", n), api.ErrRange, func(a *api.RuleArea) { a.Clearance = n })
		}
	}
	return append(out, breach{"too many rectangles", api.ErrLarge, func(r *api.RuleSet) {
		r.Areas = append(r.Areas, area(0, 0, strips(api.MaxRects/2, 0, 0, 1)...), area(-1, 0, strips(api.MaxRects/2, 0, 0, 1)...))
	}})
}

// badRegion is one that CheckRegion refuses.
type badRegion struct {
	what  string
	r     []api.Rect
	fault api.Fault
}

func badRegions() []badRegion {
	return []badRegion{
		{"too large a region", strips(api.MaxRects+1, 0, 0, 1), api.ErrLarge},
		{"a region out of range", []api.Rect{rect(0, 0, api.MaxAt+1, 1)}, api.ErrRange},
		{"a region without width", []api.Rect{rect(0, 0, 0, 1)}, api.ErrZero},
		{"a region out of order", []api.Rect{rect(5, 0, 6, 1), rect(0, 0, 1, 1)}, api.ErrOrder},
		{"a region that is not canonical", []api.Rect{rect(0, 0, 1, 1), rect(1, 0, 2, 1)}, api.ErrForm},
	}
}

// breachable are rules without faults, in memory of their own, on which breaches are made.
func breachable() api.RuleSet {
	return api.RuleSet{
		Clearance: 1,
		Classes:   []api.NetClass{class("one a1 a2", 1, 1), class("two b1 b2", 2, 2)},
		Areas:     []api.RuleArea{area(-1, 1, rect(0, 0, 5, 5)), area(0, 2, rect(0, 0, 5, 5))},
	}
}

// R1: each fault alone.
func TestFaultsOfRules(t *testing.T) {
	for _, b := range breaches() {
		r := breachable()
		b.do(&r)
		wantFault(t, b.what, rules.CheckRules(r), b.fault)
	}
}

// R1: of two faults the first one is returned. (Some overwrite an earlier one: then this is looked at alone.)
func TestOrderOfFaults(t *testing.T) {
	l := breaches()
	for i, first := range l {
		for _, second := range l[i+1:] {
			r := breachable()
			second.do(&r)
			first.do(&r)
			if got := rules.CheckRules(r); got != first.fault {
				t.Errorf("%s, and %s: fault %d, want %d", first.what, second.what, got, first.fault)
			}
		}
	}
}

// R1: nets of several classes.
func TestNetsTwice(t *testing.T) {
	for _, c := range []struct {
		what    string
		classes []api.NetClass
		want    api.Fault
	}{
		{"in the class before", []api.NetClass{class("a x y", 1, 1), class("b y", 1, 1)}, api.ErrTwice},
		{"in the first class", []api.NetClass{class("a x y", 1, 1), class("b", 1, 1), class("c w x", 1, 1)}, api.ErrTwice},
		{"out of order before twice", []api.NetClass{class("a x y", 1, 1), class("b z x", 1, 1)}, api.ErrOrder},
		{"twice before a number", []api.NetClass{class("a x y", 1, 1), class("b x", -1, 1)}, api.ErrTwice},
		{"twice before the order of classes", []api.NetClass{class("b x y", 1, 1), class("a x", 1, 1)}, api.ErrTwice},
		{"twice before the next net", []api.NetClass{class("a x y", 1, 1), class("b x ?", 1, 1)}, api.ErrTwice},
		{"twice before the next class", []api.NetClass{class("a x y", 1, 1), class("b x", 1, 1), class("?", 1, 1)}, api.ErrTwice},
		{"a number before the order of classes", []api.NetClass{class("b", 1, 1), class("a", 1, -1)}, api.ErrRange},
		{"the order before the next class", []api.NetClass{class("b", 1, 1), class("a", 1, 1), class("?", 1, 1)}, api.ErrOrder},
		{"a part of a path", []api.NetClass{class("a x/y", 1, 1), class("b x y", 1, 1)}, api.OK},
	} {
		wantFault(t, c.what, rules.CheckRules(api.RuleSet{Classes: c.classes}), c.want)
	}
}

// R1: one past each bound.
func TestPastBounds(t *testing.T) {
	for _, c := range []struct {
		what string
		r    api.RuleSet
	}{
		{"classes", api.RuleSet{Classes: manyClasses(api.MaxClasses + 1)}},
		{"nets", api.RuleSet{Classes: []api.NetClass{{Name: "a", Nets: manyNets(api.MaxNets + 1)}}}},
		{"areas", api.RuleSet{Areas: manyAreas(api.MaxAreas+1, 1)}},
		{"rectangles", api.RuleSet{Areas: append(manyAreas(api.MaxAreas-1, api.MaxRects/api.MaxAreas), area(0, 0, strips(api.MaxRects/api.MaxAreas+1, 0, 0, 1)...))}},
		{"rectangles of two", api.RuleSet{Areas: append(manyAreas(1, api.MaxRects), area(5, 0, rect(0, 0, 1, 1)))}},
	} {
		wantFault(t, c.what, rules.CheckRules(c.r), api.ErrLarge)
	}
}

// R1: widths of nets that are in a class with one of its own, without one, and in none.
func TestWidthOf(t *testing.T) {
	for net, wanted := range map[string]int{"": 3, "a": 3, "b/c": 3, "d": 5, "e": 3, "none": 3, "wide": 3, "b": 3} {
		n, f := rules.WidthOf(someRules(), net)
		wantGood(t, "the width of "+net, n, f, wanted)
	}
	for _, net := range []string{"/", "a/", "a b", "a.b", longPath() + "x"} {
		n, f := rules.WidthOf(someRules(), net)
		wantWrong(t, "the width of "+net, n, f, api.ErrName)
	}
	n, f := rules.WidthOf(api.RuleSet{Width: 9, Classes: []api.NetClass{class("a a", 0, 1)}}, "a")
	wantGood(t, "a class with less", n, f, 1)
	n, f = rules.WidthOf(api.RuleSet{}, longPath())
	wantGood(t, "no rules", n, f, 0)
}

// R1: the clearance of two nets, in areas and beside them.
func TestNeeds(t *testing.T) {
	r := someRules()
	for _, c := range []struct {
		netA, netB  string
		layer, x, y int
		want        int
	}{
		{"", "", 0, -1, 0, 4}, {"a", "e", 0, -1, 0, 7}, {"e", "a", 0, -1, 0, 7}, {"a", "b/c", 0, -1, 0, 7}, {"a", "a", 0, -1, 0, 7},
		{"", "b/c", 0, -1, 0, 7}, {"d", "e", 0, -1, 0, 4}, {"d", "", 0, -1, 0, 4}, {"b", "c", 0, -1, 0, 4}, {"fast", "none", 0, -1, 0, 4},
		{"a", "e", 0, 0, 0, 2}, {"e", "e", 0, 0, 0, 2}, {"", "", 0, 9, 9, 2}, {"a", "e", 0, 10, 9, 7}, {"a", "e", 0, 9, 10, 7},
		{"e", "e", 1, 0, 0, 2}, {"e", "e", 1, 4, 9, 2}, {"e", "e", 1, 5, 5, 9}, {"e", "e", 1, 9, 9, 9}, {"e", "e", 1, 19, 19, 9}, {"a", "e", 1, 20, 19, 7},
		{"e", "e", 1, 30, 30, 9}, {"e", "e", 1, 31, 30, 4}, {"e", "e", 2, 5, 5, 2}, {"e", "e", 2, 15, 15, 4}, {"e", "e", api.MaxCoppers - 1, 5, 5, 2},
		{"e", "e", 0, api.MaxAt, api.MaxAt, 4}, {"e", "e", 0, -api.MaxAt, -api.MaxAt, 4},
	} {
		n, f := rules.Needs(r, c.netA, c.netB, c.layer, point(c.x, c.y))
		wantGood(t, fmt.Sprint(c), n, f, c.want)
	}
	r = api.RuleSet{Clearance: 9, Classes: []api.NetClass{class("a a", 2, 0), class("b b", 3, 0)}, Areas: []api.RuleArea{area(0, 0, rect(0, 0, 1, 1))}}
	for _, c := range []struct {
		netA, netB string
		x, want    int
	}{{"a", "b", 5, 3}, {"b", "a", 5, 3}, {"a", "a", 5, 2}, {"a", "c", 5, 9}, {"", "a", 5, 9}, {"a", "c", 0, 0}, {"", "", 0, 0}} {
		n, f := rules.Needs(r, c.netA, c.netB, 0, point(c.x, 0))
		wantGood(t, fmt.Sprint("less than for all: ", c), n, f, c.want)
	}
}

// R1: the greatest clearance counts, in whatever order areas stand.
func TestNeedsOfManyAreas(t *testing.T) {
	for _, clearances := range [][]int{{1, 2, 3}, {3, 2, 1}, {2, 3, 1}, {3, 3, 0}, {0, 0, 3}} {
		r := api.RuleSet{Clearance: 50}
		for i, n := range clearances {
			r.Areas = append(r.Areas, area(i%2-1, n, rect(0, 0, 9, 9)))
		}
		n, f := rules.Needs(r, "a", "b", 0, point(4, 4))
		wantGood(t, fmt.Sprint(clearances), n, f, 3)
	}
	r := api.RuleSet{Areas: []api.RuleArea{{Layer: 0, Clearance: 9}, area(3, 8, rect(0, 0, 9, 9)), area(0, 5, rect(8, 0, 9, 9), rect(0, 8, 9, 9))}}
	n, f := rules.Needs(r, "a", "b", 0, point(4, 4))
	wantGood(t, "in no area", n, f, 0)
}

// R1: faults of WidthOf and Needs, in their order.
func TestFaultsOfNeeds(t *testing.T) {
	const far = api.MaxAt
	good := api.RuleSet{}
	bad := api.RuleSet{Width: -1}
	for _, c := range []struct {
		r           api.RuleSet
		netA, netB  string
		layer, x, y int
		want        api.Fault
	}{
		{bad, "?", "?", -1, far + 1, 0, api.ErrRange},
		{good, "?", "", 0, 0, 0, api.ErrName}, {good, "", "?", 0, 0, 0, api.ErrName}, {good, "a/", "b", 0, 0, 0, api.ErrName}, {good, "a", longPath() + "x", 0, 0, 0, api.ErrName},
		{good, "?", "", -1, far + 1, 0, api.ErrName}, {good, "", "?", api.MaxCoppers, 0, far + 1, api.ErrName},
		{good, "a", "b", -1, 0, 0, api.ErrRange}, {good, "a", "b", api.MaxCoppers, 0, 0, api.ErrRange}, {good, "a", "b", math.MinInt, 0, 0, api.ErrRange}, {good, "a", "b", math.MaxInt, 0, 0, api.ErrRange},
		{good, "a", "b", 0, far + 1, 0, api.ErrRange}, {good, "a", "b", 0, -far - 1, 0, api.ErrRange}, {good, "a", "b", 0, 0, far + 1, api.ErrRange}, {good, "a", "b", 0, 0, -far - 1, api.ErrRange},
		{good, "a", "b", 0, math.MaxInt, 0, api.ErrRange}, {good, "a", "b", 0, 0, math.MinInt, api.ErrRange},
	} {
		n, f := rules.Needs(c.r, c.netA, c.netB, c.layer, point(c.x, c.y))
		wantWrong(t, fmt.Sprint(c), n, f, c.want)
	}
	n, f := rules.WidthOf(bad, "?")
	wantWrong(t, "WidthOf", n, f, api.ErrRange)
}

// R1: random rules hold against the model.
func TestNeedsModel(t *testing.T) {
	tried(t, 1000, func(rnd *rand.Rand) {
		r := randomRules(rnd, 9)
		wantFault(t, fmt.Sprint(r), rules.CheckRules(r), api.OK)
		for range 20 {
			names := append(netNames(), "")
			a, b := names[rnd.IntN(len(names))], names[rnd.IntN(len(names))]
			layer, at := rnd.IntN(4), point(rnd.IntN(20)-10, rnd.IntN(20)-10)
			n, f := rules.Needs(r, a, b, layer, at)
			wantGood(t, fmt.Sprint(r, a, b, layer, at), n, f, needs(r, a, b, layer, at))
			n, f = rules.WidthOf(r, a)
			wantGood(t, fmt.Sprint(r, a), n, f, widthOf(r, a))
		}
	})
}
