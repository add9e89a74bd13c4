package rules_test

import (
	"fmt"
	"math"
	"math/rand/v2"
	"slices"
	"testing"

	"etchhouse/api"
	"etchhouse/copper"
	"etchhouse/rules"
	"etchhouse/shape"
)

// small is a board of one layer with an outline from 0, 0 to 20, 20.
func small(l ...api.Rect) api.Art {
	a := art(l)
	a.Outline = region(rect(0, 0, 20, 20))
	return a
}

// within is the small board's outline without some rectangles.
func within(l ...api.Rect) []api.Rect {
	return shape.InFirstAlone([]api.Rect{rect(0, 0, 20, 20)}, l)
}

// R4: room is what the Edge and other pieces leave.
func TestRoom(t *testing.T) {
	one := small(rect(8, 8, 12, 12))
	for _, c := range []struct {
		what string
		r    api.RuleSet
		a    api.Art
		nets []string
		want []api.Rect
	}{
		{"all", api.RuleSet{}, small(), nil, within()},
		{"no outline", api.RuleSet{}, api.Art{Coppers: make([][]api.Rect, 1)}, nil, nil},
		{"an edge", api.RuleSet{Edge: 3}, small(), nil, region(rect(3, 3, 17, 17))},
		{"an edge that leaves a strip", api.RuleSet{Edge: 9}, small(), nil, region(rect(9, 9, 11, 11))},
		{"an edge that leaves nothing", api.RuleSet{Edge: 10}, small(), nil, nil},
		{"far too wide an edge", api.RuleSet{Edge: api.MaxRule}, small(), nil, nil},
		{"a piece of the net", api.RuleSet{Clearance: 2}, one, []string{"n"}, within()},
		{"a piece of another net", api.RuleSet{Clearance: 2}, one, []string{"m"}, within(rect(6, 6, 14, 14))},
		{"a piece without a net", api.RuleSet{Clearance: 2}, one, []string{""}, within(rect(6, 6, 14, 14))},
		{"a piece of a net with a longer name", api.RuleSet{Clearance: 2}, one, []string{"n/n"}, within(rect(6, 6, 14, 14))},
		{"a piece, and no clearance", api.RuleSet{}, one, []string{"m"}, within(rect(8, 8, 12, 12))},
		{"a clearance beyond the outline", api.RuleSet{Clearance: api.MaxRule}, one, []string{"m"}, nil},
		{"a piece that leaves a corner", api.RuleSet{Clearance: 2}, small(rect(0, 0, 17, 20)), []string{"m"}, region(rect(19, 0, 20, 20))},
		{"more by the net's class", api.RuleSet{Clearance: 2, Classes: []api.NetClass{class("c n", 3, 0)}}, one, []string{"m"}, within(rect(5, 5, 15, 15))},
		{"more by the other net's class", api.RuleSet{Clearance: 2, Classes: []api.NetClass{class("c m", 3, 0)}}, one, []string{"m"}, within(rect(5, 5, 15, 15))},
		{"less by one class", api.RuleSet{Clearance: 2, Classes: []api.NetClass{class("c m", 1, 0)}}, one, []string{"m"}, within(rect(6, 6, 14, 14))},
		{"less by both", api.RuleSet{Clearance: 2, Classes: []api.NetClass{class("c m n", 1, 0)}}, one, []string{"m"}, within(rect(7, 7, 13, 13))},
		{"several nets", api.RuleSet{Clearance: 1, Classes: []api.NetClass{class("c m", 3, 0)}}, small(rect(0, 0, 2, 2), rect(8, 0, 10, 2), rect(16, 0, 18, 2)), []string{"m", "n", "o"}, within(rect(0, 0, 5, 5), rect(15, 0, 19, 3))},
	} {
		r, f := rules.Room(c.r, c.a, c.nets, "n", 0)
		wantGood(t, c.what, r, f, c.want)
	}
}

// R4: in areas it is these that tell the clearance, at the square itself.
func TestRoomInAreas(t *testing.T) {
	a := small(rect(8, 8, 12, 12))
	for _, c := range []struct {
		what  string
		areas []api.RuleArea
		want  []api.Rect
	}{
		{"less at the right", []api.RuleArea{area(0, 1, rect(10, 0, 20, 20))}, within(rect(6, 6, 10, 14), rect(10, 7, 13, 13))},
		{"more at the right", []api.RuleArea{area(0, 3, rect(10, 0, 20, 20))}, within(rect(6, 6, 10, 14), rect(10, 5, 15, 15))},
		{"nothing at the right", []api.RuleArea{area(-1, 0, rect(10, 0, 20, 20))}, within(rect(6, 6, 10, 14), rect(10, 8, 12, 12))},
		{"an area on another layer", []api.RuleArea{area(1, 0, rect(10, 0, 20, 20))}, within(rect(6, 6, 14, 14))},
		{"an area of the piece alone", []api.RuleArea{area(0, 0, rect(8, 8, 12, 12))}, within(rect(6, 6, 14, 14))},
		{"an area of nothing", []api.RuleArea{{Clearance: 9}}, within(rect(6, 6, 14, 14))},
		{"one over the other", []api.RuleArea{area(0, 1, rect(0, 0, 20, 20)), area(-1, 4, rect(0, 0, 20, 7)), area(0, 0, rect(0, 0, 20, 5))}, within(rect(7, 7, 13, 13), rect(4, 4, 16, 7))},
		{"the same in another order", []api.RuleArea{area(0, 0, rect(0, 0, 20, 5)), area(-1, 4, rect(0, 0, 20, 7)), area(0, 1, rect(0, 0, 20, 20))}, within(rect(7, 7, 13, 13), rect(4, 4, 16, 7))},
		{"two of one clearance", []api.RuleArea{area(0, 1, rect(0, 0, 10, 20)), area(0, 1, rect(8, 0, 20, 20))}, within(rect(7, 7, 13, 13))},
	} {
		r, f := rules.Room(api.RuleSet{Clearance: 2, Areas: c.areas}, a, []string{"m"}, "n", 0)
		wantGood(t, c.what, r, f, c.want)
		classes := []api.NetClass{class("c m", 2, 0)}
		r, f = rules.Room(api.RuleSet{Clearance: 1, Areas: c.areas, Classes: classes}, a, []string{"m"}, "n", 0)
		wantGood(t, c.what+", with a class", r, f, c.want)
	}
}

// R4: room beside bores: not in them, nor near them; near plated ones of the net.
func TestRoomBesideBores(t *testing.T) {
	for _, c := range []struct {
		what string
		b    api.Bore
		nets []string
		want []api.Rect
	}{
		{"not plated", plain(10, 10, 4, 0, 0), nil, within(rect(6, 6, 14, 14))},
		{"plated, of the net", bore(10, 10, 4, 0, 0), []string{"n"}, within(rect(8, 8, 12, 12))},
		{"plated, of another net", bore(10, 10, 4, 0, 0), []string{"m"}, within(rect(6, 6, 14, 14))},
		{"plated, without a net", bore(10, 10, 4, 0, 0), []string{""}, within(rect(6, 6, 14, 14))},
		{"through another layer", bore(10, 10, 4, 1, 1), []string{"m"}, within()},
		{"through both", bore(10, 10, 4, 0, 1), []string{"m"}, within(rect(6, 6, 14, 14))},
	} {
		a := small()
		a.Coppers = append(a.Coppers, nil)
		a.Bores = []api.Bore{c.b}
		r, f := rules.Room(api.RuleSet{Clearance: 2}, a, c.nets, "n", 0)
		wantGood(t, c.what, r, f, c.want)
		classes := []api.NetClass{class("c m n", 5, 0)}
		r, f = rules.Room(api.RuleSet{Clearance: 2, Classes: classes, Areas: []api.RuleArea{area(-1, 5, rect(0, 0, 20, 20))}}, a, c.nets, "n", 0)
		wantGood(t, c.what+": the Clearance is that for all", r, f, c.want)
	}
	a := small(rect(8, 8, 12, 12))
	a.Bores = []api.Bore{bore(10, 10, 2, 0, 0)}
	r, f := rules.Room(api.RuleSet{Clearance: 2}, a, []string{"n"}, "n", 0)
	wantGood(t, "a piece with a bore of the net", r, f, within(rect(9, 9, 11, 11)))
	r, f = rules.Room(api.RuleSet{Clearance: 2}, a, []string{"m"}, "n", 0)
	wantGood(t, "a piece with a bore of another net", r, f, within(rect(6, 6, 14, 14)))
	a.Bores[0].Plated = false
	r, f = rules.Room(api.RuleSet{Clearance: 2}, a, []string{"n"}, "n", 0)
	wantGood(t, "a piece of the net with a bore that is not plated", r, f, within(rect(7, 7, 13, 13)))
}

// R4: bores of the net beside others: what is near the others is no room.
func TestRoomBesideTwoBores(t *testing.T) {
	a := small()
	a.Bores = []api.Bore{bore(6, 10, 2, 0, 0), bore(9, 10, 2, 0, 0)}
	r, f := rules.Room(api.RuleSet{Clearance: 2}, a, []string{"n", "m"}, "n", 0)
	wantGood(t, "one of the net", r, f, within(rect(5, 9, 7, 11), rect(6, 7, 12, 13)))
	r, f = rules.Room(api.RuleSet{Clearance: 2}, a, []string{"n", "n"}, "n", 0)
	wantGood(t, "both of the net, in two groups", r, f, within(rect(5, 9, 7, 11), rect(8, 9, 10, 11)))
}

// R4: room as large as can be, and larger.
func TestRoomAtBounds(t *testing.T) {
	a := api.Art{Coppers: make([][]api.Rect, 1), Outline: strips(api.MaxRects, 0, 0, 9)}
	r, f := rules.Room(api.RuleSet{}, a, nil, "n", 0)
	wantGood(t, "as large as can be", r, f, a.Outline)
	a.Bores = []api.Bore{plain(0, 4, 1, 0, 0)}
	r, f = rules.Room(api.RuleSet{}, a, nil, "n", 0)
	wantWrong(t, "cut by a bore", r, f, api.ErrLarge)
	ok, f := rules.Fits(api.RuleSet{}, a, nil, "n", 0, []api.Rect{{}})
	wantWrong(t, "Fits", ok, f, api.ErrLarge)
	a.Outline = holed(600)
	a.Bores = nil
	r, f = rules.Room(api.RuleSet{Edge: 9}, a, nil, "n", 0)
	wantWrong(t, "many holes", r, f, api.ErrLarge)
	a.Bores = []api.Bore{plain(6000, 600, api.MaxHoleSize, 0, 0)}
	r, f = rules.Room(api.RuleSet{Edge: 9, Clearance: 1090}, a, nil, "n", 0)
	wantGood(t, "many holes, but little left", r, f, region(rect(-91, -91, -90, 1291), rect(12090, -91, 12091, 1291)))
}

// R4: what fits lies in the room, and is thin nowhere.
func TestFits(t *testing.T) {
	a := small(rect(8, 8, 12, 12))
	r := api.RuleSet{Clearance: 2, Edge: 1, Width: 3, Classes: []api.NetClass{class("fine f", 0, 1), class("wide w", 0, 4)}}
	for _, c := range []struct {
		what string
		net  string
		more []api.Rect
		want bool
	}{
		{"nothing", "n", nil, true},
		{"just wide enough", "n", []api.Rect{rect(1, 1, 4, 4)}, true},
		{"too narrow", "n", []api.Rect{rect(1, 1, 4, 3)}, false},
		{"too narrow for its class", "w", []api.Rect{rect(1, 1, 4, 4)}, false},
		{"wide enough for its class", "w", []api.Rect{rect(1, 1, 5, 5)}, true},
		{"narrow, but wide enough for its class", "f", []api.Rect{rect(1, 1, 9, 2)}, true},
		{"too near to the edge", "n", []api.Rect{rect(0, 1, 4, 4)}, false},
		{"beyond the edge", "n", []api.Rect{rect(-9, -9, -1, -1)}, false},
		{"just so far from the piece", "n", []api.Rect{rect(1, 1, 6, 19), rect(1, 1, 19, 6)}, true},
		{"too near to the piece", "n", []api.Rect{rect(1, 1, 7, 7)}, false},
		{"on the piece", "n", []api.Rect{rect(8, 8, 12, 12)}, false},
		{"on a piece of the net", "m", []api.Rect{rect(8, 8, 12, 12)}, true},
		{"a strip that leads to a piece of the net, too narrow alone", "m", []api.Rect{rect(9, 1, 11, 8)}, false},
		{"a strip that leads to a piece of the net", "m", []api.Rect{rect(9, 1, 12, 8)}, true},
		{"two parts", "n", []api.Rect{rect(1, 1, 4, 4), rect(14, 14, 17, 17)}, true},
		{"two parts, one too narrow", "n", []api.Rect{rect(1, 1, 4, 4), rect(14, 14, 17, 16)}, false},
		{"two parts, one too near", "n", []api.Rect{rect(1, 1, 4, 4), rect(13, 13, 17, 17)}, false},
		{"two parts, one just far enough above", "n", []api.Rect{rect(1, 1, 4, 4), rect(13, 14, 17, 17)}, true},
		{"all of the room", "n", []api.Rect{rect(1, 1, 19, 6), rect(1, 14, 19, 19), rect(1, 1, 6, 19), rect(14, 1, 19, 19)}, true},
	} {
		ok, f := rules.Fits(r, a, []string{"m"}, c.net, 0, region(c.more...))
		wantGood(t, c.what, ok, f, c.want)
	}
}

// R4: faults, in their order.
func TestFaultsOfRoom(t *testing.T) {
	a := small(rect(8, 8, 12, 12))
	bad := []api.Rect{{}}
	for _, c := range []struct {
		what  string
		nets  []string
		net   string
		layer int
		want  api.Fault
	}{
		{"nets before the net", nil, "", 9, api.ErrForm},
		{"names of nets before the net", []string{"?"}, "", 9, api.ErrName},
		{"an empty name", []string{"m"}, "", 0, api.ErrName},
		{"an empty name of a group without a net", []string{""}, "", 0, api.ErrName},
		{"no path", []string{"m"}, "n/", 0, api.ErrName},
		{"too long a path", []string{"m"}, longPath() + "x", 0, api.ErrName},
		{"a name before a layer", []string{"m"}, "?", 9, api.ErrName},
		{"no such layer", []string{"m"}, "n", 1, api.ErrRange},
		{"a layer above all", []string{"m"}, "n", -1, api.ErrRange},
		{"a layer far above", []string{"m"}, "n", math.MinInt, api.ErrRange},
		{"a layer far below", []string{"m"}, "n", math.MaxInt, api.ErrRange},
	} {
		r, f := rules.Room(api.RuleSet{}, a, c.nets, c.net, c.layer)
		wantWrong(t, c.what, r, f, c.want)
		ok, f := rules.Fits(api.RuleSet{}, a, c.nets, c.net, c.layer, bad)
		wantWrong(t, c.what, ok, f, c.want)
	}
	for _, b := range badRegions() {
		ok, f := rules.Fits(api.RuleSet{}, a, []string{"m"}, "n", 0, b.r)
		wantWrong(t, b.what, ok, f, b.fault)
	}
	r, f := rules.Room(api.RuleSet{}, a, []string{"m"}, longPath(), 0)
	wantGood(t, "a long path", r, f, within(rect(8, 8, 12, 12)))
}

// R4: random boards hold against the model.
func TestRoomModel(t *testing.T) {
	fitting, not := 0, 0
	tried(t, 600, func(rnd *rand.Rand) {
		a, r := randomArt(rnd), randomRules(rnd, 3)
		nets := randomNets(rnd, a)
		net, layer := netNames()[rnd.IntN(len(netNames()))], rnd.IntN(len(a.Coppers))
		m := modelOf(r, a, nets)
		what := fmt.Sprintf("%+v %+v %q %s %d", r, a, nets, net, layer)
		room, f := rules.Room(r, a, nets, net, layer)
		wantGood(t, what, room, f, m.room(net, layer).region())
		inRoom := squaresOf(room...)
		for range 4 {
			more := region(randomRects(rnd, 2, 5)...)
			if rnd.IntN(2) == 0 {
				more = shape.InBoth(more, room)
			}
			s := squaresOf(more...)
			wanted := s.within(inRoom) && len(s.thin(widthOf(r, net))) == 0
			ok, f := rules.Fits(r, a, nets, net, layer, more)
			wantGood(t, fmt.Sprint(what, more), ok, f, wanted)
			if ok && len(more) > 0 {
				fitting++
			} else {
				not++
			}
		}
	})
	if fitting < 200 || not < 200 {
		t.Errorf("%d fit, %d do not", fitting, not)
	}
}

// R4: what follows: without areas, with what Fits says the board breaks no rule of Clear more, but that pieces of the net stay apart.
func TestWhatFitsIsClear(t *testing.T) {
	added := 0
	tried(t, 3000, func(rnd *rand.Rand) {
		a, r := randomArt(rnd), randomRules(rnd, 3)
		r.Areas, r.Width, r.Clearance = nil, rnd.IntN(2), max(r.Clearance, 1)
		nets := randomNets(rnd, a)
		net, layer := netNames()[rnd.IntN(len(netNames()))], rnd.IntN(len(a.Coppers))
		room, _ := rules.Room(r, a, nets, net, layer)
		more := shape.InBoth(room, region(randomRects(rnd, 3, 6)...))
		if ok, _ := rules.Fits(r, a, nets, net, layer, more); !ok || len(more) == 0 {
			return
		}
		with, f := copper.With(a, layer, more)
		wantFault(t, "With", f, api.OK)
		newNets := netsOfMore(a, with, nets, net)
		l, f := rules.Clear(r, with, newNets)
		wantFault(t, "Clear", f, api.OK)
		before, after := modelOf(r, a, nets), modelOf(r, with, newNets)
		for _, b := range l {
			if after.net(b.A) == net && after.net(b.B) == net {
				continue
			}
			p, q := after.pieces[b.A], after.pieces[b.B]
			was := func(c api.Break) bool { // perhaps with A and B for each other
				pieceA, pieceB := before.pieces[c.A], before.pieces[c.B]
				return c.Is == b.Is && c.Need == b.Need && (pieceA.within(p) && pieceB.within(q) || pieceA.within(q) && pieceB.within(p))
			}
			if !slices.ContainsFunc(before.clear(), was) {
				t.Errorf("%+v %+v %q: %v for %s on %d: %+v", r, a, nets, more, net, layer, b)
			}
		}
		added++
	})
	if added < 500 {
		t.Errorf("%d boards with more", added)
	}
}

// netsOfMore are the nets of a board with more copper: new groups, and those that new copper joins, are of the net.
func netsOfMore(a, with api.Art, nets []string, net string) []string {
	before, after := modelOf(api.RuleSet{}, a, nets), modelOf(api.RuleSet{}, with, noNets(with))
	out := slices.Repeat([]string{net}, len(after.nets))
	for k, p := range after.pieces {
		for j, q := range before.pieces {
			if before.layers[j] == after.layers[k] && q.within(p) {
				out[after.groups[k]] = before.net(j)
			}
		}
	}
	for i, own := range after.own {
		if own >= 0 && before.nets[before.own[i]] != net {
			out[own] = before.nets[before.own[i]]
		}
	}
	return out
}
