package rules_test

import (
	"fmt"
	"math/rand/v2"
	"slices"
	"strings"
	"testing"

	"etchhouse/api"
	"etchhouse/copper"
	"etchhouse/rules"
)

// islands is a board with a group of 3 by 3 squares for each of some names of pins, with all pins of a group on its first square.
func islands(groups ...string) api.Art {
	var l []api.Rect
	var lands []api.Land
	for i, names := range groups {
		l = append(l, rect(5*i, 0, 5*i+3, 3))
		for _, name := range strings.Fields(names) {
			lands = append(lands, land(name, 0, 5*i, 0))
		}
	}
	slices.SortFunc(lands, func(k, l api.Land) int { return strings.Compare(k.Part+" "+k.Pin, l.Part+" "+l.Pin) })
	a := art(l)
	a.Lands = lands
	return a
}

// R2: the net of all pins of a group that are in the list.
func TestNetsOf(t *testing.T) {
	x := list("a:y b:y c/d:y | m a.1 b.1 | n/o a.2 b.2 c/d.1")
	for _, c := range []struct{ pins, want string }{
		{"", ""}, {"a.1", "m"}, {"a.1 b.1", "m"}, {"b.2", "n/o"}, {"a.2 b.2 c/d.1", "n/o"},
		{"a.1 a.2", ""}, {"b.2 b.1 a.2", ""}, {"a.1 b.1 c/d.1", ""},
		{"a.3", ""}, {"a.3 b.3", ""}, {"a.1 a.3", ""}, {"a.1 b.1 b.3", ""}, {"a.2 c/d.3", ""},
		{"z.1", ""}, {"z.1 z.2", ""}, {"a.1 z.1", "m"}, {"a.9", ""}, {"a.1 a.9 b.1 z.3", "m"}, {"a.3 z.1", ""}, {"a.1 b.2 z.1", ""}, {"c/d.1 c.1 d.1", "n/o"},
	} {
		nets, f := rules.NetsOf(kinds(), x, islands(c.pins))
		wantGood(t, c.pins, nets, f, []string{c.want})
	}
	nets, f := rules.NetsOf(kinds(), x, islands("", "b.2", "z.1", "a.1 b.1", "a.2"))
	wantGood(t, "many groups", nets, f, []string{"", "n/o", "", "m", "n/o"})
	nets, f = rules.NetsOf(nil, api.Netlist{}, islands("a.1", "b.1"))
	wantGood(t, "an empty list", nets, f, []string{"", ""})
	nets, f = rules.NetsOf(kinds(), x, api.Art{Coppers: make([][]api.Rect, 2)})
	wantGood(t, "no groups", nets, f, nil)
}

// R2: groups of several layers, and of bores without pieces.
func TestNetsOfBores(t *testing.T) {
	a := art([]api.Rect{rect(0, 0, 9, 9)}, []api.Rect{rect(0, 0, 9, 9), rect(20, 0, 29, 9)})
	a.Bores = []api.Bore{bore(4, 4, 2, 0, 1), bore(40, 4, 4, 0, 1), plain(50, 4, 4, 0, 1)}
	a.Lands = []api.Land{land("a.1", 0, 0, 0), land("a.2", 1, 40, 4), land("b.1", 1, 8, 8), land("b.2", 0, 4, 4), land("c.1", 0, 50, 4)}
	nets, f := rules.NetsOf(kinds(), list("a:x b:x c:x | m a.1 b.1 b.2 c.1 | n a.2"), a)
	wantGood(t, "one net on two layers", nets, f, []string{"m", "", "n"})
	nets, f = rules.NetsOf(kinds(), list("a:x b:x c:x | m a.1 b.1 | n a.2"), a)
	wantGood(t, "a loose pin in a bore", nets, f, []string{"", "", "n"})
	nets, f = rules.NetsOf(kinds(), list("a:x c:x | m a.1 | n a.2 c.1"), a)
	wantGood(t, "pins of another part", nets, f, []string{"m", "", "n"})
}

// R2: faults, in their order.
func TestFaultsOfNetsOf(t *testing.T) {
	good, bad := islands("a.1"), islands("a.1")
	bad.Outline = []api.Rect{{}}
	badTypes := []api.PartType{{Name: "?"}}
	for _, c := range []struct {
		what string
		t    []api.PartType
		x    api.Netlist
		a    api.Art
		want api.Fault
	}{
		{"types", badTypes, list("a:q"), bad, api.ErrName},
		{"the list", kinds(), list("a:q"), bad, api.ErrNone},
		{"a net", kinds(), list("a:x | m a.3"), good, api.ErrNone},
		{"a net twice", kinds(), list("a:x | m a.1 | n a.1"), good, api.ErrTwice},
		{"the board", kinds(), list("a:x"), bad, api.ErrZero},
		{"no coppers", kinds(), list("a:x"), api.Art{}, api.ErrNone},
	} {
		nets, f := rules.NetsOf(c.t, c.x, c.a)
		wantWrong(t, c.what, nets, f, c.want)
	}
}

// R2: what NetsOf returns is taken by all functions with nets.
func TestNetsAreTaken(t *testing.T) {
	tried(t, 300, func(rnd *rand.Rand) {
		a := randomArt(rnd)
		x := list("a:y b:y c:y")
		nets := make([]api.Net, 3)
		for _, part := range strings.Fields("a b c") {
			for _, one := range strings.Fields("1 2 3") {
				name := part + "." + one
				a.Lands = append(a.Lands, land(name, rnd.IntN(len(a.Coppers)), rnd.IntN(2*side)-side, rnd.IntN(2*side)-side))
				if n := rnd.IntN(4); n < 3 {
					nets[n].Pins = append(nets[n].Pins, pin(name))
				}
			}
		}
		for i, n := range nets {
			if len(n.Pins) > 0 {
				x.Nets = append(x.Nets, api.Net{Name: fmt.Sprint("n", i), Pins: n.Pins})
			}
		}
		names, f := rules.NetsOf(kinds(), x, a)
		wantGood(t, fmt.Sprint(x, a), names, f, modelNets(x, a))
		_, f = rules.All(api.RuleSet{}, a, names)
		wantFault(t, fmt.Sprint(x, a), f, api.OK)
	})
}

// modelNets takes all pins of a group that are of parts of the list, all of which have all pins of type y.
func modelNets(x api.Netlist, a api.Art) []string {
	groups, _ := copper.Groups(a)
	out := make([]string, len(groups))
	for i, g := range groups {
		for _, n := range x.Nets {
			isOther := func(p api.Pin) bool { return !slices.Contains(n.Pins, p) }
			if len(g.Pins) > 0 && !slices.ContainsFunc(g.Pins, isOther) {
				out[i] = n.Name
			}
		}
	}
	return out
}

// R2: lists of nets with a fault, for each function that takes them.
func TestFaultsOfNets(t *testing.T) {
	a := islands("", "", "")
	for _, c := range []struct {
		what string
		nets []string
		want api.Fault
	}{
		{"empty names", []string{"", "", ""}, api.OK},
		{"paths", []string{"a/b", "x+", longPath()}, api.OK},
		{"none", nil, api.ErrForm},
		{"too few", []string{"", ""}, api.ErrForm},
		{"too many", []string{"", "", "", ""}, api.ErrForm},
		{"too few, one of which is no path", []string{"?", ""}, api.ErrForm},
		{"no path at first", []string{"?", "", ""}, api.ErrName},
		{"no path at last", []string{"a", "", "a/"}, api.ErrName},
		{"a blank", []string{"a", " ", "a"}, api.ErrName},
		{"too long a path", []string{"a", longPath() + "x", "a"}, api.ErrName},
	} {
		r := api.RuleSet{Clearance: 50, Width: 50}
		for name, all := range withNets() {
			got, f := all(r, a, c.nets)
			wantFault(t, name+": "+c.what, f, c.want)
			if f != api.OK && !isZero(got) {
				t.Errorf("%s: %s: got %v beside a fault", name, c.what, got)
			}
		}
	}
}

// withNets are all functions that take nets; those of Room and Fits come behind.
func withNets() map[string]func(api.RuleSet, api.Art, []string) (any, api.Fault) {
	told := func(f func(api.RuleSet, api.Art, []string) ([]api.Break, api.Fault)) func(api.RuleSet, api.Art, []string) (any, api.Fault) {
		return func(r api.RuleSet, a api.Art, nets []string) (any, api.Fault) { return f(r, a, nets) }
	}
	return map[string]func(api.RuleSet, api.Art, []string) (any, api.Fault){
		"Clear": told(rules.Clear), "Narrow": told(rules.Narrow), "All": told(rules.All),
		"Room": func(r api.RuleSet, a api.Art, nets []string) (any, api.Fault) { return rules.Room(r, a, nets, "a", 0) },
		"Fits": func(r api.RuleSet, a api.Art, nets []string) (any, api.Fault) {
			return rules.Fits(r, a, nets, "a", 0, nil)
		},
	}
}
