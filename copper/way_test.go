package copper_test

import (
	"fmt"
	"math/rand/v2"
	"testing"

	"etchhouse/api"
	"etchhouse/copper"
)

// wantWay holds the way from one pin to another one, and its bridges; both are empty if there is no way.
func wantWay(t *testing.T, a api.Art, from, to, way, bridges string) {
	t.Helper()
	what := fmt.Sprint(from, " to ", to)
	got, ok, f := copper.Way(a, pin(from), pin(to))
	wantGood(t, "Way "+what, got, f, append([]api.Hop{}, hops(way)...))
	want(t, "there is a way "+what, ok, way != "")
	got, f = copper.Bridges(a, pin(from), pin(to))
	if way == "" {
		wantWrong(t, "Bridges "+what, got, f, api.ErrNone)
	} else {
		wantGood(t, "Bridges "+what, got, f, append([]api.Hop{}, hops(bridges)...))
	}
}

// bridged has the pieces 0 and 1 above, and below them the piece 2, which hangs on the first one, and three between both: 3, 4 and 5.
func bridged() api.Art {
	return api.Art{
		Coppers: [][]api.Rect{
			region(rect(0, 0, 40, 10), rect(50, 0, 90, 10)),
			region(rect(30, 0, 60, 2), rect(30, 3, 60, 5), rect(30, 6, 60, 8), rect(0, 0, 10, 10)),
		},
		Bores: []api.Bore{bore(35, 1, 1, 0, 1), bore(55, 1, 1, 0, 1), bore(35, 4, 1, 0, 1), bore(55, 4, 1, 0, 1), bore(35, 7, 1, 0, 1), bore(55, 7, 1, 0, 1), bore(5, 5, 2, 0, 1)},
		Lands: []api.Land{land("a.1", 0, 0, 0), land("a.2", 0, 20, 5), land("b.1", 0, 89, 9), land("c.1", 1, 0, 0), land("d.1", 0, 35, 4), land("d.2", 1, 35, 4), land("e.1", 1, 45, 7), land("f.1", 0, 45, 0), land("f.2", 0, 45, 0)},
	}
}

// C5: ways as short as can be, the least one of several, and what they hang on.
func TestWay(t *testing.T) {
	a := bridged()
	wantWay(t, a, "a.1", "b.1", "p0 b0 p3 b1 p1", "p0 p1")
	wantWay(t, a, "b.1", "a.1", "p1 b1 p3 b0 p0", "p1 p0")
	wantWay(t, a, "a.1", "a.2", "p0", "p0")
	wantWay(t, a, "a.1", "a.1", "p0", "p0")
	wantWay(t, a, "a.1", "c.1", "p0 b6 p2", "p0 b6 p2")
	wantWay(t, a, "c.1", "b.1", "p2 b6 p0 b0 p3 b1 p1", "p2 b6 p0 p1")
	wantWay(t, a, "d.1", "d.2", "b2", "b2")
	wantWay(t, a, "d.1", "d.1", "b2", "b2")
	wantWay(t, a, "d.1", "a.1", "b2 p0", "b2 p0")
	wantWay(t, a, "d.2", "b.1", "b2 p4 b3 p1", "b2 p1")
	wantWay(t, a, "d.2", "e.1", "b2 p0 b4 p5", "b2 p5")
	wantWay(t, a, "e.1", "d.2", "p5 b4 p0 b2", "p5 b2")
	wantWay(t, a, "a.1", "e.1", "p0 b4 p5", "p0 p5")
	wantWay(t, a, "a.1", "f.1", "", "")
	wantWay(t, a, "f.1", "a.1", "", "")
	wantWay(t, a, "f.1", "f.1", "", "")
	wantWay(t, a, "f.1", "f.2", "", "")
	a.Bores[0].Plated = false
	wantWay(t, a, "a.1", "b.1", "p0 b2 p4 b3 p1", "p0 p1")
	a.Bores[4].Plated = false
	wantWay(t, a, "a.1", "b.1", "p0 b2 p4 b3 p1", "p0 b2 p4 b3 p1")
	a.Bores[3].Plated = false
	wantWay(t, a, "a.1", "b.1", "", "")
	wantWay(t, a, "e.1", "b.1", "p5 b5 p1", "p5 b5 p1")
	wantWay(t, some(), "a.1", "a.2", "p0 b0 p1", "p0 b0 p1")
	wantWay(t, some(), "b.2", "b.1", "b1 p4", "b1 p4")
	wantWay(t, some(), "c.1", "c.1", "b3", "b3")
	wantWay(t, some(), "c.1", "c.2", "", "")
	wantWay(t, some(), "a.1", "b.1", "", "")
}

// C5: of ways that are as short the least one, hop by hop: the first hops count more than the later ones.
func TestLeastWay(t *testing.T) {
	a := bridged()
	a.Bores[0], a.Bores[4] = a.Bores[4], a.Bores[0]
	wantWay(t, a, "a.1", "b.1", "p0 b0 p5 b5 p1", "p0 p1")
	wantWay(t, a, "b.1", "a.1", "p1 b1 p3 b4 p0", "p1 p0")
	// Two bores from one piece to another one.
	a = api.Art{
		Coppers: [][]api.Rect{region(rect(0, 0, 20, 4)), region(rect(0, 0, 20, 4))},
		Bores:   []api.Bore{bore(15, 2, 1, 0, 1), bore(5, 2, 1, 0, 1), bore(10, 2, 1, 0, 1)},
		Lands:   []api.Land{land("a.1", 0, 5, 0), land("b.1", 1, 5, 0), land("c.1", 0, 10, 2)},
	}
	wantWay(t, a, "a.1", "b.1", "p0 b0 p1", "p0 p1")
	wantWay(t, a, "c.1", "b.1", "b2 p1", "b2 p1")
	a.Lands[1] = land("b.1", 0, 15, 2)
	wantWay(t, a, "b.1", "c.1", "b0 p0 b2", "b0 b2")
}

// C5: a chain of pieces one behind the other, and one beside it that leads past its middle.
func TestBridgesPast(t *testing.T) {
	a := api.Art{
		Coppers: [][]api.Rect{region(rect(0, 0, 12, 4), rect(20, 0, 32, 4), rect(40, 0, 52, 4)), region(rect(10, 0, 22, 4), rect(30, 0, 42, 4)), nil, nil},
		Bores:   []api.Bore{bore(11, 2, 1, 0, 3), bore(21, 2, 1, 0, 3), bore(31, 2, 1, 0, 3), bore(41, 2, 1, 0, 3)},
		Lands:   []api.Land{land("a.1", 0, 0, 0), land("b.1", 0, 51, 0)},
	}
	wantWay(t, a, "a.1", "b.1", "p0 b0 p3 b1 p1 b2 p4 b3 p2", "p0 b0 p3 b1 p1 b2 p4 b3 p2")
	past := func(layer, from, to int) {
		t.Helper()
		var f api.Fault
		a, f = copper.With(a, layer, region(rect(from, 0, to, 4)))
		wantFault(t, "With", f, api.OK)
	}
	past(2, 0, 12)
	wantWay(t, a, "a.1", "b.1", "p0 b0 p3 b1 p1 b2 p4 b3 p2", "p0 b0 p3 b1 p1 b2 p4 b3 p2")
	past(3, 10, 22)
	wantWay(t, a, "a.1", "b.1", "p0 b0 p3 b1 p1 b2 p4 b3 p2", "p0 b0 b1 p1 b2 p4 b3 p2")
	past(3, 30, 42)
	wantWay(t, a, "a.1", "b.1", "p0 b0 p3 b1 p1 b2 p4 b3 p2", "p0 b0 b1 p1 b2 b3 p2")
	past(3, 10, 42)
	wantWay(t, a, "a.1", "b.1", "p0 b0 p6 b3 p2", "p0 b0 b3 p2")
}

// C5: pins without lands.
func TestWayOfNoLand(t *testing.T) {
	for _, c := range [][2]string{{"a.1", "z.1"}, {"z.1", "a.1"}, {"z.1", "z.1"}, {"", "a.1"}, {"a.1", ""}, {"c.2", "z.1"}, {"a.1", "a.3"}} {
		way, ok, f := copper.Way(some(), pin(c[0]), pin(c[1]))
		wantWrong(t, fmt.Sprint("Way ", c), way, f, api.ErrNone)
		want(t, fmt.Sprint("Way ", c), ok, false)
		way, f = copper.Bridges(some(), pin(c[0]), pin(c[1]))
		wantWrong(t, fmt.Sprint("Bridges ", c), way, f, api.ErrNone)
	}
}

// C5: ways and bridges are those of the model, and Way says the same of pins as GroupOf.
func TestWaysModel(t *testing.T) {
	for _, board := range []func(*rand.Rand) api.Art{randomArt, crossing} {
		tried(t, 150, func(rnd *rand.Rand) {
			a := board(rnd)
			m := modelOf(a)
			for _, from := range a.Lands {
				for _, to := range a.Lands {
					holdWay(t, a, m, from, to)
				}
			}
			if t.Failed() {
				t.Logf("%+v", a)
			}
		})
	}
}

func holdWay(t *testing.T, a api.Art, m *model, from, to api.Land) {
	t.Helper()
	var wantedWay, wantedBridges []api.Hop
	first, okFirst := m.holder(from)
	last, okLast := m.holder(to)
	joined := okFirst && okLast && m.joined(pinOf(from), pinOf(to))
	if joined {
		wantedWay = m.way(first, last)
		wantedBridges = m.bridges(wantedWay)
	}
	way, ok, f := copper.Way(a, pinOf(from), pinOf(to))
	wantGood(t, "Way", way, f, wantedWay)
	want(t, "there is a way", ok, joined)
	bridges, f := copper.Bridges(a, pinOf(from), pinOf(to))
	if joined {
		wantGood(t, "Bridges", bridges, f, wantedBridges)
	} else {
		wantWrong(t, "Bridges", bridges, f, api.ErrNone)
	}
}

// C5: the longest way: through all bores there can be.
func TestLongWay(t *testing.T) {
	a := api.Art{Coppers: make([][]api.Rect, 2)}
	for i := range api.MaxBores + 1 {
		a.Coppers[i%2] = append(a.Coppers[i%2], rect(10*i, 0, 10*i+14, 4))
	}
	wanted := []api.Hop{{}}
	for i := range api.MaxBores {
		a.Bores = append(a.Bores, bore(10*i+12, 2, 2, 0, 1))
		above := (i + 1) / 2
		if i%2 == 0 {
			above = i/2 + api.MaxBores/2 + 1
		}
		wanted = append(wanted, api.Hop{Bore: true, Number: i}, api.Hop{Number: above})
	}
	a.Lands = []api.Land{land("a.1", 0, 0, 0), land("b.1", 0, 10*api.MaxBores, 0)}
	way, ok, f := copper.Way(a, pin("a.1"), pin("b.1"))
	wantGood(t, "Way", way, f, wanted)
	want(t, "there is a way", ok, true)
	bridges, f := copper.Bridges(a, pin("a.1"), pin("b.1"))
	wantGood(t, "Bridges", bridges, f, wanted)
}
