package copper_test

import (
	"fmt"
	"math/rand/v2"
	"testing"

	"etchhouse/api"
	"etchhouse/copper"
)

// The example of the chapter: two coppers with one piece each, and a bore whose square lies inside of each.
func TestExample(t *testing.T) {
	a := api.Art{
		Coppers: [][]api.Rect{region(rect(0, 0, 9, 9)), region(rect(1, 1, 8, 8))},
		Bores:   []api.Bore{bore(4, 4, 3, 0, 1)},
		Lands:   []api.Land{land("a.1", 0, 0, 0), land("b.1", 1, 1, 1)},
	}
	want(t, "with the bore", groupsOf(t, a), []api.Group{group([]int{0, 1}, []int{0}, "a.1 b.1")})
	two := []api.Group{group([]int{0}, nil, "a.1"), group([]int{1}, nil, "b.1")}
	a.Bores[0].Plated = false
	want(t, "with a bore that is not plated", groupsOf(t, a), two)
	a.Bores = nil
	want(t, "without the bore", groupsOf(t, a), two)
}

// C3: groups by their first piece; those without any behind, by their first bore. A pin can lie on a piece, on a plated bore, or on neither.
func TestGroups(t *testing.T) {
	want(t, "Groups", groupsOf(t, some()), []api.Group{
		group([]int{0, 1}, []int{0}, "a.1 a.2"),
		group([]int{2, 4}, []int{1}, "b.1 b.2"),
		group([]int{3}, nil, ""),
		group([]int{5}, nil, ""),
		group(nil, []int{3}, "c.1"),
	})
	made, f := copper.Made(some())
	wantGood(t, "Made", made, f, [][]api.Pin{pins("a.1 a.2"), pins("b.1 b.2"), pins("c.1"), pins("c.2")})
	for name, want := range map[string]int{"a.1": 0, "a.2": 0, "b.1": 1, "b.2": 1, "c.1": 4} {
		n, ok, f := copper.GroupOf(some(), pin(name))
		wantGood(t, "GroupOf "+name, []any{n, ok}, f, []any{want, true})
	}
	n, ok, f := copper.GroupOf(some(), pin("c.2"))
	wantGood(t, "GroupOf a pin on a bore that is not plated", []any{n, ok}, f, []any{0, false})
	want(t, "Groups of no copper", groupsOf(t, api.Art{Coppers: make([][]api.Rect, 2)}), nil)
}

// C3: pins of no land.
func TestNoLand(t *testing.T) {
	hold := func(a api.Art, name string) {
		t.Helper()
		n, ok, f := copper.GroupOf(a, pin(name))
		wantFault(t, "GroupOf "+name, f, api.ErrNone)
		want(t, "GroupOf "+name, []any{n, ok}, []any{0, false})
	}
	for _, name := range []string{"a.3", "a.", ".1", "", "d.1", "A.1", "a/a.1"} {
		hold(some(), name)
	}
	hold(api.Art{Coppers: make([][]api.Rect, 1)}, "a.1")
}

// C3: where a land can lie: the square of its point, on its layer.
func TestHolders(t *testing.T) {
	a := api.Art{
		Coppers: [][]api.Rect{region(rect(0, 0, 10, 10)), nil, region(rect(0, 0, 10, 10)), nil},
		Bores:   []api.Bore{plain(50, 50, 2, 0, 3), bore(5, 5, 4, 0, 1), bore(20, 5, 2, 1, 2), bore(30, 5, 2, 1, 2)},
	}
	for _, c := range []struct {
		what        string
		layer, x, y int
		want        int // -1: none
	}{
		{"on a piece", 0, 0, 0, 0}, {"at its last square", 0, 9, 9, 0}, {"at its right side", 0, 10, 0, -1}, {"above it", 0, 0, 10, -1}, {"at its left side", 0, -1, 0, -1}, {"below it", 0, 0, -1, -1},
		{"on a piece of another layer", 2, 3, 3, 1}, {"below all pieces", 3, 1, 1, -1}, {"between pieces", 1, 1, 1, -1},
		{"on a bore through a piece", 0, 3, 3, 0}, {"at the end of this bore", 0, 6, 6, 0}, {"on the bore alone", 1, 3, 3, 0}, {"beside the bore alone", 1, 7, 3, -1}, {"below the bore", 3, 3, 3, -1}, {"below the bore, on a piece", 2, 5, 5, 1},
		{"on a bore without pieces", 1, 19, 4, 2}, {"at its end", 2, 20, 5, 2}, {"on the next one", 2, 30, 5, 3}, {"above a bore", 0, 20, 5, -1}, {"below a bore", 3, 20, 5, -1}, {"beside a bore", 1, 21, 5, -1},
		{"on a bore that is not plated", 0, 50, 50, -1}, {"far away", 0, api.MaxAt, api.MaxAt, -1},
	} {
		a.Lands = []api.Land{land("a.1", c.layer, c.x, c.y)}
		n, ok, f := copper.GroupOf(a, pin("a.1"))
		wantGood(t, c.what, []any{n, ok}, f, []any{max(c.want, 0), c.want >= 0})
		groups, wanted := groupsOf(t, a), []api.Group{{Pieces: []int{0}, Bores: []int{1}}, {Pieces: []int{1}}, {Bores: []int{2}}, {Bores: []int{3}}}
		if c.want >= 0 {
			wanted[c.want].Pins = pins("a.1")
		}
		want(t, c.what, groups, wanted)
	}
}

// C3: bores that touch one another join nothing by themselves, nor does one that is not plated; a piece can join many bores.
func TestJoined(t *testing.T) {
	a := api.Art{Coppers: make([][]api.Rect, 2), Bores: []api.Bore{bore(1, 1, 2, 0, 1), bore(3, 1, 2, 0, 1), bore(5, 1, 2, 0, 1)}}
	want(t, "bores side by side", groupsOf(t, a), []api.Group{{Bores: []int{0}}, {Bores: []int{1}}, {Bores: []int{2}}})
	a.Coppers[1] = region(rect(3, 2, 9, 5))
	want(t, "a piece at two of them", groupsOf(t, a), []api.Group{{Pieces: []int{0}, Bores: []int{1, 2}}, {Bores: []int{0}}})
	a.Coppers[0] = region(rect(0, 2, 3, 3))
	want(t, "a piece at all of them", groupsOf(t, a), []api.Group{{Pieces: []int{0, 1}, Bores: []int{0, 1, 2}}})
	a.Bores[1].Plated = false
	want(t, "one of them not plated", groupsOf(t, a), []api.Group{{Pieces: []int{0}, Bores: []int{0}}, {Pieces: []int{1}, Bores: []int{2}}})
	a.Bores[1] = bore(3, 1, 2, 0, 0)
	want(t, "one of them not through all", groupsOf(t, a), []api.Group{{Pieces: []int{0}, Bores: []int{0, 1}}, {Pieces: []int{1}, Bores: []int{2}}})
	a.Bores[2].To = 0
	want(t, "the last one not through all", groupsOf(t, a), []api.Group{{Pieces: []int{0}, Bores: []int{0, 1}}, {Pieces: []int{1}}, {Bores: []int{2}}})
}

// C3: groups, pins and what has none are those of the model.
func TestGroupsModel(t *testing.T) {
	for _, board := range []func(*rand.Rand) api.Art{randomArt, crossing} {
		tried(t, 300, func(rnd *rand.Rand) {
			a := board(rnd)
			m := modelOf(a)
			want(t, "Groups", groupsOf(t, a), m.groups)
			made, f := copper.Made(a)
			wantGood(t, "Made", made, f, m.made())
			for _, l := range a.Lands {
				n, ok, f := copper.GroupOf(a, pinOf(l))
				wantN, wantOK := m.numberOf(pinOf(l))
				wantGood(t, fmt.Sprint("GroupOf ", l), []any{n, ok}, f, []any{wantN, wantOK})
			}
			holdIslands(t, a, m)
			if t.Failed() {
				t.Logf("%+v", a)
			}
		})
	}
}

// holdIslands holds Islands and Useless against the groups of the model.
func holdIslands(t *testing.T, a api.Art, m *model) {
	t.Helper()
	var islands, useless []int
	for k := range m.pieces {
		for _, g := range m.groups {
			for _, other := range g.Pieces {
				if other == k && len(g.Pins) == 0 {
					islands = append(islands, k)
				}
			}
		}
	}
	for i, b := range a.Bores {
		if b.Plated && len(m.touched(i)) <= 1 {
			useless = append(useless, i)
		}
	}
	got, f := copper.Islands(a)
	wantGood(t, "Islands", got, f, islands)
	got, f = copper.Useless(a)
	wantGood(t, "Useless", got, f, useless)
}

// C4: pieces without pins, in order, and plated bores that join nothing.
func TestIslandsAndUseless(t *testing.T) {
	islands, f := copper.Islands(some())
	wantGood(t, "Islands", islands, f, []int{3, 5})
	useless, f := copper.Useless(some())
	wantGood(t, "Useless", useless, f, []int{3})
	a := some()
	a.Lands = a.Lands[4:]
	islands, f = copper.Islands(a)
	wantGood(t, "Islands of groups across one another", islands, f, []int{0, 1, 2, 3, 4, 5})
	a.Lands = []api.Land{land("x.1", 0, 30, 0), land("x.2", 0, 29, 9)}
	islands, f = copper.Islands(a)
	wantGood(t, "Islands but for one group", islands, f, []int{0, 1, 3, 5})

	a = api.Art{Coppers: [][]api.Rect{region(rect(0, 0, 10, 10), rect(20, 0, 30, 10)), region(rect(0, 0, 10, 10), rect(20, 0, 30, 10))}}
	a.Bores = []api.Bore{bore(25, 5, 2, 0, 1), bore(5, 5, 2, 0, 0), plain(5, 5, 2, 1, 1), bore(50, 5, 2, 0, 1), bore(25, 9, 2, 0, 1), bore(-1, 5, 2, 0, 1), bore(11, 5, 2, 1, 1)}
	useless, f = copper.Useless(a)
	wantGood(t, "Useless", useless, f, []int{1, 3, 6})
	want(t, "the groups", groupsOf(t, a), []api.Group{{Pieces: []int{0, 2}, Bores: []int{1, 5, 6}}, {Pieces: []int{1, 3}, Bores: []int{0, 4}}, {Bores: []int{3}}})
	islands, f = copper.Islands(api.Art{Coppers: make([][]api.Rect, 1), Lands: []api.Land{land("a.1", 0, 0, 0)}})
	wantGood(t, "Islands of no copper", islands, f, nil)
	a.Lands = []api.Land{land("a.1", 0, 25, 5)}
	islands, f = copper.Islands(a)
	wantGood(t, "a pin on a bore", islands, f, []int{0, 2})
}

// C3: all of a large board is one group.
func TestLargeGroup(t *testing.T) {
	const quarter = api.MaxPieces / 4
	r, b := cut(quarter, quarter)
	b.To = 1
	a := api.Art{Coppers: [][]api.Rect{r, r}, Bores: []api.Bore{b}, Lands: manyLands(api.MaxLands)}
	g := groupsOf(t, a)
	want(t, "groups", len(g), 1)
	want(t, "pieces", len(g[0].Pieces), api.MaxPieces)
	want(t, "bores", g[0].Bores, []int{0})
	want(t, "pins", len(g[0].Pins), api.MaxLands)
	a.Bores[0].Plated = false
	want(t, "groups without the bore", len(groupsOf(t, a)), api.MaxPieces)
	a = boardWith(row(api.MaxBores)...)
	want(t, "groups of bores alone", len(groupsOf(t, a)), api.MaxBores)
}
