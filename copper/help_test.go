package copper_test

import (
	"cmp"
	"fmt"
	"math/rand/v2"
	"reflect"
	"slices"
	"strings"
	"testing"

	"etchhouse/api"
	"etchhouse/copper"
	"etchhouse/shape"
)

func wantFault(t *testing.T, what string, got, want api.Fault) {
	t.Helper()
	if got != want {
		t.Errorf("%s: fault %d, want %d", what, got, want)
	}
}

// want holds results against each other; nil and an empty list are the same.
func want(t *testing.T, what string, got, want any) {
	t.Helper()
	if want == nil {
		want = []int{}
	}
	if g, w := fmt.Sprintf("%+v", got), fmt.Sprintf("%+v", want); g != w {
		t.Errorf("%s:\ngot  %s\nwant %s", what, g, w)
	}
}

// wantGood holds a result that comes without a fault.
func wantGood(t *testing.T, what string, got any, f api.Fault, wanted any) {
	t.Helper()
	wantFault(t, what, f, api.OK)
	want(t, what, got, wanted)
}

// wantWrong holds a fault, and that the result that comes with it is zero.
func wantWrong(t *testing.T, what string, got any, f, wanted api.Fault) {
	t.Helper()
	wantFault(t, what, f, wanted)
	if !isZero(got) {
		t.Errorf("%s: got %+v beside a fault", what, got)
	}
}

func isZero(got any) bool {
	switch v := reflect.ValueOf(got); v.Kind() {
	case reflect.Slice:
		return v.Len() == 0
	case reflect.Struct:
		for i := range v.NumField() {
			if !isZero(v.Field(i).Interface()) {
				return false
			}
		}
		return true
	default:
		return v.IsZero()
	}
}

// tried calls a function many times with a source of numbers.
func tried(t *testing.T, times int, f func(rnd *rand.Rand)) {
	t.Helper()
	rnd := rand.New(rand.NewPCG(5, 5))
	for range times {
		if f(rnd); t.Failed() {
			return
		}
	}
}

func rect(x0, y0, x1, y1 int) api.Rect {
	return api.Rect{X0: x0, Y0: y0, X1: x1, Y1: y1}
}

// region makes a region of rectangles.
func region(l ...api.Rect) []api.Rect {
	r, f := shape.Region(l)
	if f != api.OK {
		panic(fmt.Sprint("no region: ", f))
	}
	return r
}

// strips are so many rectangles of the width 1 with as much between them, the first one from x on.
func strips(many, x, y0, y1 int) []api.Rect {
	var out []api.Rect
	for i := range many {
		out = append(out, rect(x+2*i, y0, x+2*i+1, y1))
	}
	return out
}

func bore(x, y, size, from, to int) api.Bore {
	return api.Bore{At: api.Point{X: x, Y: y}, Size: size, From: from, To: to, Plated: true}
}

// plain makes a bore that is not plated.
func plain(x, y, size, from, to int) api.Bore {
	b := bore(x, y, size, from, to)
	b.Plated = false
	return b
}

// land makes that of PART.PIN.
func land(name string, layer, x, y int) api.Land {
	p := pin(name)
	return api.Land{Part: p.Part, Pin: p.Pin, Layer: layer, At: api.Point{X: x, Y: y}}
}

// pin reads PART.PIN.
func pin(name string) api.Pin {
	part, one, _ := strings.Cut(name, ".")
	return api.Pin{Part: part, Pin: one}
}

func pins(text string) []api.Pin {
	var out []api.Pin
	for _, name := range strings.Fields(text) {
		out = append(out, pin(name))
	}
	return out
}

func pinOf(l api.Land) api.Pin {
	return api.Pin{Part: l.Part, Pin: l.Pin}
}

// hops reads p0 (a piece) and b0 (a bore).
func hops(text string) []api.Hop {
	var out []api.Hop
	for _, word := range strings.Fields(text) {
		h := api.Hop{Bore: word[0] == 'b'}
		fmt.Sscan(word[1:], &h.Number)
		out = append(out, h)
	}
	return out
}

func group(pieces, bores []int, names string) api.Group {
	return api.Group{Pieces: pieces, Bores: bores, Pins: pins(names)}
}

// roomy copies a list; there is spare capacity behind it, in which something stands.
func roomy[T any](l []T) []T {
	return append(slices.Clone(l), l...)[:len(l)]
}

// copied is a board with memory of its own, and spare capacity.
func copied(a api.Art) api.Art {
	out := api.Art{Outline: roomy(a.Outline), Bores: roomy(a.Bores), Lands: roomy(a.Lands)}
	for _, r := range a.Coppers {
		out.Coppers = append(out.Coppers, roomy(r))
	}
	out.Coppers = roomy(out.Coppers)
	return out
}

// some is a board without faults: of three pieces above one is cut into two by a bore, and one is joined with the two below; a bore joins nothing, one is not plated.
func some() api.Art {
	return api.Art{
		Coppers: [][]api.Rect{
			region(rect(0, 0, 10, 2), rect(20, 0, 30, 10), rect(40, 0, 50, 10)),
			region(rect(0, 0, 30, 10), rect(40, 0, 50, 10)),
			nil,
		},
		Outline: region(rect(-10, -10, 60, 20)),
		Bores:   []api.Bore{bore(5, 1, 4, 0, 0), bore(25, 5, 2, 0, 2), plain(45, 5, 2, 0, 1), bore(35, 5, 4, 0, 2)},
		Lands:   []api.Land{land("a.1", 0, 0, 0), land("a.2", 0, 9, 1), land("b.1", 1, 0, 9), land("b.2", 0, 25, 5), land("c.1", 2, 35, 5), land("c.2", 0, 45, 5)},
	}
}

// overlaps says whether two rectangles have a square in common.
func overlaps(r, s api.Rect) bool {
	return max(r.X0, s.X0) < min(r.X1, s.X1) && max(r.Y0, s.Y0) < min(r.Y1, s.Y1)
}

// fitting are those bores that have no square in common with one before them.
func fitting(bores []api.Bore) []api.Bore {
	var out []api.Bore
	for _, b := range bores {
		fits := !slices.ContainsFunc(out, func(c api.Bore) bool {
			return b.From <= c.To && c.From <= b.To && overlaps(squareOf(b), squareOf(c))
		})
		if fits {
			out = append(out, b)
		}
	}
	return out
}

// randomLands are in order; their parts are a to e, their pins 1 to 3.
func randomLands(rnd *rand.Rand, layers, side int) []api.Land {
	var out []api.Land
	for _, part := range strings.Fields("a b c d e") {
		for _, one := range strings.Fields("1 2 3") {
			if rnd.IntN(2) == 0 {
				out = append(out, land(part+"."+one, rnd.IntN(layers), rnd.IntN(2*side)-side, rnd.IntN(2*side)-side))
			}
		}
	}
	return out
}

// randomRects lie around the point 0, 0.
func randomRects(rnd *rand.Rand, many, side int) []api.Rect {
	var out []api.Rect
	for range rnd.IntN(many + 1) {
		x, y := rnd.IntN(2*side)-side, rnd.IntN(2*side)-side
		out = append(out, rect(x, y, x+1+rnd.IntN(side), y+1+rnd.IntN(side)))
	}
	return out
}

// randomArt has copper anywhere.
func randomArt(rnd *rand.Rand) api.Art {
	const side = 6
	layers := 1 + rnd.IntN(3)
	a := api.Art{Outline: region(randomRects(rnd, 2, side)...), Lands: randomLands(rnd, layers, side+1)}
	for range layers {
		a.Coppers = append(a.Coppers, region(randomRects(rnd, 5, side)...))
	}
	for range rnd.IntN(9) {
		from := rnd.IntN(layers)
		b := bore(rnd.IntN(2*side)-side, rnd.IntN(2*side)-side, 1+rnd.IntN(5), from, from+rnd.IntN(layers-from))
		b.Plated = rnd.IntN(4) > 0
		a.Bores = append(a.Bores, b)
	}
	a.Bores = fitting(a.Bores)
	return a
}

// crossing has strips across one another, and bores where they cross: so there are many ways.
func crossing(rnd *rand.Rand) api.Art {
	const many, step = 4, 4
	a := api.Art{Coppers: make([][]api.Rect, 3), Lands: randomLands(rnd, 3, many*step/2)}
	for i := range many {
		from, to := i*step-many*step/2, i*step-many*step/2+step-1
		across := rect(-many*step/2, from, many*step/2, to)
		a.Coppers[0] = append(a.Coppers[0], across)
		a.Coppers[1] = append(a.Coppers[1], rect(from, across.X0, to, across.X1))
		a.Coppers[2] = append(a.Coppers[2], across)
	}
	for _, at := range rnd.Perm(many * many)[:4+rnd.IntN(9)] {
		x, y := at%many*step-many*step/2+1, at/many*step-many*step/2+1
		from := rnd.IntN(2)
		a.Bores = append(a.Bores, bore(x, y, 1, from, from+1+rnd.IntN(2-from)))
	}
	return a
}

// randomList is a list of types x (pins 1 and 2) and y (pins 1 to 3), of the parts a to d.
func randomList(rnd *rand.Rand) ([]api.PartType, api.Netlist) {
	var x api.Netlist
	nets := make([]api.Net, 4)
	for _, part := range strings.Fields("a b c d") {
		one := kinds()[rnd.IntN(2)]
		if rnd.IntN(6) == 0 {
			continue
		}
		x.Parts = append(x.Parts, api.Part{Name: part, Type: one.Name})
		for _, p := range one.Pins {
			if n := rnd.IntN(len(nets) + 1); n < len(nets) {
				nets[n].Pins = append(nets[n].Pins, api.Pin{Part: part, Pin: p.Name})
			}
		}
	}
	for i, n := range nets {
		if len(n.Pins) > 0 {
			x.Nets = append(x.Nets, api.Net{Name: fmt.Sprint("n", i), Pins: n.Pins})
		}
	}
	return kinds(), x
}

// kinds are types x and y with two and three pins.
func kinds() []api.PartType {
	one := func(name string) api.PinType { return api.PinType{Name: name, Kind: api.PinPassive} }
	return []api.PartType{
		{Name: "x", Pins: []api.PinType{one("1"), one("2")}},
		{Name: "y", Pins: []api.PinType{one("1"), one("2"), one("3")}},
	}
}

// list reads "NAME:TYPE NAME:TYPE | NET PART.PIN PART.PIN | NET ..".
func list(text string) api.Netlist {
	var x api.Netlist
	lines := strings.Split(text, "|")
	for _, word := range strings.Fields(lines[0]) {
		name, kind, _ := strings.Cut(word, ":")
		x.Parts = append(x.Parts, api.Part{Name: name, Type: kind})
	}
	for _, line := range lines[1:] {
		name, rest, _ := strings.Cut(strings.TrimSpace(line), " ")
		x.Nets = append(x.Nets, api.Net{Name: name, Pins: pins(rest)})
	}
	return x
}

// groupsOf returns the groups of a board of which these are known to come.
func groupsOf(t *testing.T, a api.Art) []api.Group {
	t.Helper()
	g, f := copper.Groups(a)
	wantFault(t, "Groups", f, api.OK)
	return g
}

func compareSpots(a, b spot) int {
	return cmp.Or(cmp.Compare(a.layer, b.layer), cmp.Compare(a.y, b.y), cmp.Compare(a.x, b.x))
}
