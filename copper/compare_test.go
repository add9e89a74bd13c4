package copper_test

import (
	"math/rand/v2"
	"slices"
	"strings"
	"testing"

	"etchhouse/api"
	"etchhouse/copper"
)

// wantWrongs holds what Compare finds on a board of types x and y.
func wantWrongs(t *testing.T, what string, x api.Netlist, a api.Art, wanted ...api.Wrong) {
	t.Helper()
	got, f := copper.Compare(kinds(), x, a)
	wantGood(t, what, got, f, append([]api.Wrong{}, wanted...))
}

func wrong(kind int, nets, names string) api.Wrong {
	return api.Wrong{Kind: kind, Nets: strings.Fields(nets), Pins: pins(names)}
}

// squares is a board of single squares beside one another, one of each number, with the lands on them: of "a.1:0 b.1:-1" a.1 lies on the first one, b.1 on none.
func squares(text string) api.Art {
	a := api.Art{Coppers: [][]api.Rect{nil}}
	taken := map[int]bool{}
	for _, word := range strings.Fields(text) {
		name, number, _ := strings.Cut(word, ":")
		x := strings.Index("0123456789", number)
		if x >= 0 {
			taken[x] = true
		}
		a.Lands = append(a.Lands, land(name, 0, 2*x, 0))
	}
	for x := range 10 {
		if taken[x] {
			a.Coppers[0] = append(a.Coppers[0], rect(2*x, 0, 2*x+1, 1))
		}
	}
	return a
}

// C4: each kind by itself, and what is right.
func TestCompare(t *testing.T) {
	x := list("a:x b:x c:y | m a.1 b.1 | n b.2 c.1 c.2")
	right := "a.1:0 a.2:3 b.1:0 b.2:1 c.1:1 c.2:1 c.3:2"
	wantWrongs(t, "what is right", x, squares(right))
	wantWrongs(t, "loose pins without lands", x, squares("a.1:0 b.1:0 b.2:1 c.1:1 c.2:1"))
	wantWrongs(t, "loose pins on no copper", x, squares("a.1:0 a.2:- b.1:0 b.2:1 c.1:1 c.2:1 c.3:-"))
	wantWrongs(t, "nothing", list(""), squares(""))
	wantWrongs(t, "no lands", x, squares(""), wrong(api.WrongMissing, "", "a.1 b.1 b.2 c.1 c.2"))
	wantWrongs(t, "some missing", x, squares("a.1:0 a.2:3 c.1:1 c.2:1"), wrong(api.WrongMissing, "", "b.1 b.2"))
	wantWrongs(t, "an open net", x, squares("a.1:0 b.1:4 b.2:1 c.1:1 c.2:1"), wrong(api.WrongOpen, "m", "a.1 b.1"))
	wantWrongs(t, "a net in three groups", x, squares("a.1:0 b.1:0 b.2:3 c.1:2 c.2:1"), wrong(api.WrongOpen, "n", "b.2 c.1 c.2"))
	wantWrongs(t, "both open", x, squares("a.1:0 b.1:4 b.2:1 c.1:1 c.2:2"), wrong(api.WrongOpen, "m", "a.1 b.1"), wrong(api.WrongOpen, "n", "b.2 c.1 c.2"))
	wantWrongs(t, "a short of nets", x, squares("a.1:0 b.1:0 b.2:0 c.1:0 c.2:0"), wrong(api.WrongShort, "m n", "a.1 b.1 b.2 c.1 c.2"))
	wantWrongs(t, "a short of a net and a loose pin", x, squares("a.1:0 a.2:0 b.1:0 b.2:1 c.1:1 c.2:1"), wrong(api.WrongShort, "m", "a.1 a.2 b.1"))
	wantWrongs(t, "a short of loose pins", x, squares("a.1:0 a.2:3 b.1:0 b.2:1 c.1:1 c.2:1 c.3:3"), wrong(api.WrongShort, "", "a.2 c.3"))
	wantWrongs(t, "extra lands", x, squares("a.1:0 a.3:5 b.1:0 b.2:1 c.1:1 c.2:1 d.1:0 e.1:-"), wrong(api.WrongExtra, "", "a.3 d.1 e.1"))
	wantWrongs(t, "extra lands together", x, squares("a.1:0 a.3:5 b.1:0 b.2:1 c.1:1 c.2:1 d.1:5 e.1:1"), wrong(api.WrongExtra, "", "a.3 d.1 e.1"))
	wantWrongs(t, "a list of nothing", list(""), squares(right), wrong(api.WrongExtra, "", "a.1 a.2 b.1 b.2 c.1 c.2 c.3"))
}

// C4: what is missing is told net by net, as the list tells it.
func TestMissing(t *testing.T) {
	x := list("a:x b:x c:y | m c.1 c.3 | n a.1 c.2 | o a.2 b.1")
	wantWrongs(t, "all missing", x, squares("b.2:0"), wrong(api.WrongMissing, "", "c.1 c.3 a.1 c.2 a.2 b.1"))
	wantWrongs(t, "some missing", x, squares("a.2:0 b.1:0 c.1:1"), wrong(api.WrongMissing, "", "c.3 a.1 c.2"))
}

// C4: pins of an open net, group by group, that with the least pin first; those without a group each by itself.
func TestOpen(t *testing.T) {
	x := list("a:x b:x c:y | n a.1 a.2 b.1 b.2 c.1 c.2 c.3")
	wantWrongs(t, "groups across one another", x, squares("a.1:5 a.2:1 b.1:0 b.2:5 c.1:1 c.2:0 c.3:1"), wrong(api.WrongOpen, "n", "a.1 b.2 a.2 c.1 c.3 b.1 c.2"))
	wantWrongs(t, "pins without a group", x, squares("a.1:- a.2:1 b.1:- b.2:5 c.1:1 c.2:- c.3:5"), wrong(api.WrongOpen, "n", "a.1 a.2 c.1 b.1 b.2 c.3 c.2"))
	wantWrongs(t, "two pins without a group", x, squares("a.1:- a.2:-"), wrong(api.WrongMissing, "", "b.1 b.2 c.1 c.2 c.3"), wrong(api.WrongOpen, "n", "a.1 a.2"))
	wantWrongs(t, "one pin without a group", x, squares("a.2:-"), wrong(api.WrongMissing, "", "a.1 b.1 b.2 c.1 c.2 c.3"))
	wantWrongs(t, "one pin with a group", x, squares("a.2:0"), wrong(api.WrongMissing, "", "a.1 b.1 b.2 c.1 c.2 c.3"))
	wantWrongs(t, "pins of one group, and one without", x, squares("a.1:0 a.2:0 b.1:0 b.2:0 c.1:0 c.2:- c.3:0"), wrong(api.WrongOpen, "n", "a.1 a.2 b.1 b.2 c.1 c.3 c.2"))
	wantWrongs(t, "other pins between them", list("a:x b:x | n a.2 b.2"), squares("a.1:0 a.2:1 b.2:2"), wrong(api.WrongOpen, "n", "a.2 b.2"))
}

// C4: shorts, group by group, with all pins of the list, and no other ones.
func TestShort(t *testing.T) {
	x := list("a:x b:x c:y | k b.2 | m c.2 | n a.1 b.1 | o c.1")
	wantWrongs(t, "nets by name, pins by name", x, squares("a.1:0 b.1:0 b.2:0 c.1:0 c.2:0"), wrong(api.WrongShort, "k m n o", "a.1 b.1 b.2 c.1 c.2"))
	wantWrongs(t, "groups in order", x, squares("a.1:5 a.2:1 b.1:5 b.2:5 c.1:1 c.2:0 c.3:0"), wrong(api.WrongShort, "m", "c.2 c.3"), wrong(api.WrongShort, "o", "a.2 c.1"), wrong(api.WrongShort, "k n", "a.1 b.1 b.2"))
	wantWrongs(t, "with lands of no pin", x, squares("a.1:0 a.3:0 b.1:0 b.2:1 b.9:1 c.1:0 c.2:2 z.1:2"), wrong(api.WrongShort, "n o", "a.1 b.1 c.1"), wrong(api.WrongExtra, "", "a.3 b.9 z.1"))
	wantWrongs(t, "one loose pin with lands of no pin", x, squares("a.1:0 a.2:1 a.3:1 b.1:0 b.2:2 c.1:3 c.2:4 z.1:1"), wrong(api.WrongExtra, "", "a.3 z.1"))
	wantWrongs(t, "a short and an open net", x, squares("a.1:0 b.1:1 b.2:0 c.1:2 c.2:3"), wrong(api.WrongOpen, "n", "a.1 b.1"), wrong(api.WrongShort, "k n", "a.1 b.2"))
	a := squares("a.1:- b.1:- b.2:- c.1:- c.2:-")
	for i := range a.Lands {
		a.Lands[i].At = api.Point{}
	}
	wantWrongs(t, "at one place without copper", x, a, wrong(api.WrongOpen, "n", "a.1 b.1"))
	a.Bores = []api.Bore{bore(0, 0, 2, 0, 0)}
	wantWrongs(t, "on one bore", x, a, wrong(api.WrongShort, "k m n o", "a.1 b.1 b.2 c.1 c.2"))
	a.Bores[0].Plated = false
	wantWrongs(t, "on a bore that is not plated", x, a, wrong(api.WrongOpen, "n", "a.1 b.1"))
}

// C4: all kinds, in their order.
func TestAllWrongs(t *testing.T) {
	x := list("a:x b:x c:y d:x | k a.1 b.1 c.1 | m a.2 b.2 | n c.2 d.1")
	wantWrongs(t, "all", x, squares("a.1:7 a.2:0 a.9:0 b.1:1 b.2:0 c.3:0 d.1:1 d.2:1 e.1:1"),
		wrong(api.WrongMissing, "", "c.1 c.2"), wrong(api.WrongOpen, "k", "a.1 b.1"), wrong(api.WrongShort, "m", "a.2 b.2 c.3"),
		wrong(api.WrongShort, "k n", "b.1 d.1 d.2"), wrong(api.WrongExtra, "", "a.9 e.1"))
}

// C4: errors of types come first, then those of the list, then those of the board.
func TestCompareFaults(t *testing.T) {
	x, good := list("a:x | n a.1"), squares("a.1:0")
	var noArt api.Art
	for _, c := range []struct {
		what  string
		types []api.PartType
		list  api.Netlist
		art   api.Art
		want  api.Fault
	}{
		{"types, a list and a board", []api.PartType{{Name: "x"}}, list(":x"), noArt, api.ErrNone},
		{"types and a list", slices.Repeat(kinds(), 2), list("a:z"), good, api.ErrOrder},
		{"types", []api.PartType{{Name: ""}}, x, good, api.ErrName},
		{"a list and a board", kinds(), list(":x"), noArt, api.ErrName},
		{"a list", kinds(), list("a:x a:x | n a.1"), good, api.ErrOrder},
		{"nets", kinds(), list("a:x | m a.1 | n a.1"), good, api.ErrTwice},
		{"a board", kinds(), x, noArt, api.ErrNone},
		{"a board's lands", kinds(), x, api.Art{Coppers: good.Coppers, Lands: slices.Repeat(good.Lands, 2)}, api.ErrOrder},
	} {
		got, f := copper.Compare(c.types, c.list, c.art)
		wantWrong(t, c.what, got, f, c.want)
	}
}

// C4: what Compare finds is what the model finds.
func TestCompareModel(t *testing.T) {
	for _, board := range []func(*rand.Rand) api.Art{randomArt, crossing} {
		tried(t, 1000, func(rnd *rand.Rand) {
			a := board(rnd)
			types, x := randomList(rnd)
			wantWrongs(t, "Compare", x, a, modelOf(a).compare(types, x)...)
			if t.Failed() {
				t.Logf("%+v %+v", a, x)
			}
		})
	}
}

// C4: what follows: there is nothing but WrongExtra just if each pin of a net has a land, and two pins of the list that have some are in one group just when they are in one net.
func TestCompareFollows(t *testing.T) {
	right := 0
	tried(t, 1500, func(rnd *rand.Rand) {
		types, x := randomList(rnd)
		a := likely(rnd, x)
		wrongs, f := copper.Compare(types, x, a)
		wantFault(t, "Compare", f, api.OK)
		others := slices.ContainsFunc(wrongs, func(w api.Wrong) bool { return w.Kind != api.WrongExtra })
		follows := isAsListed(t, types, x, a)
		want(t, "what follows", !others, follows)
		if follows {
			right++
		}
	})
	if right < 100 || right > 1400 {
		t.Errorf("%d boards are right", right)
	}
}

// likely is a board of squares on which each net most often has a square of its own, and each loose pin one, if any.
func likely(rnd *rand.Rand, x api.Netlist) api.Art {
	words := []string{}
	next := len(x.Nets)
	for _, part := range strings.Fields("a b c d e") {
		for _, one := range strings.Fields("1 2 3") {
			p := api.Pin{Part: part, Pin: one}
			at := slices.IndexFunc(x.Nets, func(n api.Net) bool { return slices.Contains(n.Pins, p) })
			switch {
			case rnd.IntN(25) == 0:
				at = rnd.IntN(10)
			case at < 0 && next < 10 && rnd.IntN(3) > 0:
				at, next = next, next+1
			case at < 0 || rnd.IntN(25) == 0:
				continue
			}
			words = append(words, part+"."+one+":"+"0123456789"[at:at+1])
		}
	}
	return squares(strings.Join(words, " "))
}

// isAsListed asks GroupOf for all pins.
func isAsListed(t *testing.T, types []api.PartType, x api.Netlist, a api.Art) bool {
	t.Helper()
	for _, n := range x.Nets {
		for _, p := range n.Pins {
			if _, _, f := copper.GroupOf(a, p); f == api.ErrNone {
				return false
			}
		}
	}
	joined := joinedOn(t, a)
	for _, l := range a.Lands {
		for _, m := range a.Lands {
			p, q := pinOf(l), pinOf(m)
			if p == q || !listed(types, x, p) || !listed(types, x, q) {
				continue
			}
			oneNet := netOf(x, p) != "" && netOf(x, p) == netOf(x, q)
			if oneNet != joined(p, q) {
				return false
			}
		}
	}
	return true
}

// joinedOn says of two pins that have lands on a board whether GroupOf tells one group of both.
func joinedOn(t *testing.T, a api.Art) func(p, q api.Pin) bool {
	t.Helper()
	group := map[api.Pin]int{}
	for _, l := range a.Lands {
		n, ok, f := copper.GroupOf(a, pinOf(l))
		wantFault(t, "GroupOf", f, api.OK)
		if ok {
			group[pinOf(l)] = n
		}
	}
	return func(p, q api.Pin) bool {
		i, okP := group[p]
		j, okQ := group[q]
		return okP && okQ && i == j
	}
}
