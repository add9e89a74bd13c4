package netlist

import (
	"cmp"
	"fmt"
	"math/rand/v2"
	"slices"
	"strings"
	"testing"

	"etchhouse/api"
)

// modelMark is the place of the first pin of the group of a pin.
func modelMark(kind api.PartType, place int) int {
	for i, p := range kind.Pins[:place] {
		if p.Group > 0 && p.Group == kind.Pins[place].Group {
			return i
		}
	}
	return place
}

// modelRanks gives each sign its rank among all different ones.
func modelRanks(signs [][]int) ([]int, int) {
	different := slices.Clone(signs)
	slices.SortFunc(different, slices.Compare[[]int])
	different = slices.CompactFunc(different, slices.Equal[[]int])
	var ranks []int
	for _, s := range signs {
		i, _ := slices.BinarySearchFunc(different, s, slices.Compare[[]int])
		ranks = append(ranks, i)
	}
	return ranks, len(different)
}

// modelSign is a colour, and two numbers behind it for each pin, sorted.
func modelSign(colour int, twos [][2]int) []int {
	slices.SortFunc(twos, func(a, b [2]int) int { return slices.Compare(a[:], b[:]) })
	sign := []int{colour}
	for _, two := range twos {
		sign = append(sign, two[0], two[1])
	}
	return sign
}

// modelColours makes rounds, word for word as chapter 2 tells them, of lists put together.
func modelColours(types []api.PartType, lists ...api.Netlist) (parts, nets []int) {
	type key struct {
		list int
		pin  api.Pin
	}
	kindOf := func(name string) int {
		return slices.IndexFunc(types, func(k api.PartType) bool { return k.Name == name })
	}
	netOf, partOf, marks := map[key]int{}, map[key]int{}, map[key]int{}
	var allParts []key
	var allNets [][]key
	var kinds [][]int
	for i, x := range lists {
		for _, p := range x.Parts {
			kinds = append(kinds, []int{kindOf(p.Type)})
			for place, one := range types[kindOf(p.Type)].Pins {
				k := key{i, api.Pin{Part: p.Name, Pin: one.Name}}
				partOf[k], netOf[k] = len(allParts), -1
				marks[k] = modelMark(types[kindOf(p.Type)], place)
			}
			allParts = append(allParts, key{i, api.Pin{Part: p.Name, Pin: p.Type}})
		}
		for _, n := range x.Nets {
			var l []key
			for _, p := range n.Pins {
				netOf[key{i, p}] = len(allNets)
				l = append(l, key{i, p})
			}
			allNets = append(allNets, l)
		}
	}
	parts, manyParts := modelRanks(kinds)
	nets, manyNets := make([]int, len(allNets)), min(1, len(allNets))
	for {
		var signsOfNets, signsOfParts [][]int
		for i, l := range allNets {
			var twos [][2]int
			for _, k := range l {
				twos = append(twos, [2]int{parts[partOf[k]], marks[k]})
			}
			signsOfNets = append(signsOfNets, modelSign(nets[i], twos))
		}
		for i, p := range allParts {
			var twos [][2]int
			for _, one := range types[kindOf(p.pin.Pin)].Pins {
				k := key{p.list, api.Pin{Part: p.pin.Part, Pin: one.Name}}
				colour := -1
				if netOf[k] >= 0 {
					colour = nets[netOf[k]]
				}
				twos = append(twos, [2]int{marks[k], colour})
			}
			signsOfParts = append(signsOfParts, modelSign(parts[i], twos))
		}
		beforeParts, beforeNets := manyParts, manyNets
		parts, manyParts = modelRanks(signsOfParts)
		nets, manyNets = modelRanks(signsOfNets)
		if manyParts == beforeParts && manyNets == beforeNets {
			return parts, nets
		}
	}
}

// N7: colours of some lists, reckoned by hand.
func TestColours(t *testing.T) {
	for _, c := range []struct {
		what, x     string
		parts, nets []int
	}{
		{"empty", "", nil, nil},
		{"types by name", "a:r b:c c:r d:gate", []int{2, 0, 2, 1}, nil},
		{"types that are there", "a:r b:c", []int{1, 0}, nil},
		{"a loose one is least", "a:r b:r c:r | n a.1 a.2 | o b.1", []int{2, 1, 0}, []int{1, 0}},
		{"a beginning is less", "a:c b:c c:c | m a.k b.k | n c.k", []int{1, 1, 0}, []int{1, 0}},
		{"pins of one group", "a:r b:r | m a.1 | n b.2", []int{0, 0}, []int{0, 0}},
		{"pins of no group", "a:gate b:gate | m a.v | n b.w", []int{1, 0}, []int{0, 1}},
		{"pins of one group in several ways", "a:gate b:gate | m a.a b.b | n a.b | o b.a", []int{0, 0}, []int{1, 0, 0}},
		{"all pins of a group in one net", "a:r b:r | m a.1 a.2 | n b.1 | o b.2", []int{1, 0}, []int{1, 0, 0}},
		{"pins of two groups", "a:two b:two c:two d:two e:two | m a.b | n b.c | o c.d | p d.e | q e.f", []int{2, 1, 0, 2, 0}, []int{0, 1, 2, 0, 2}},
		{"a chain", "a:r b:r c:r d:r e:r | w a.2 b.1 | x b.2 c.1 | y c.2 d.1 | z d.2 e.1", []int{0, 1, 2, 1, 0}, []int{0, 1, 1, 0}},
		{"a ring", "a:r b:r c:r | x a.2 b.1 | y b.2 c.1 | z a.1 c.2", []int{0, 0, 0}, []int{0, 0, 0}},
	} {
		parts, nets, f := Colours(someTypes(), list(c.x))
		wantFault(t, c.what, f, api.OK)
		want(t, c.what+": parts", parts, c.parts)
		want(t, c.what+": nets", nets, c.nets)
	}
	parts, nets, f := Colours(someTypes(), list("a:x"))
	wantFault(t, "a broken list", f, api.ErrNone)
	wantZero(t, "a broken list", parts)
	wantZero(t, "a broken list", nets)
}

// manyAlike makes lists in which much looks alike: few types, many pins in nets of two.
func manyAlike(rnd *rand.Rand) api.Netlist {
	many := 1 + rnd.IntN(14)
	x := api.Netlist{Parts: partsOf([]string{"r", "gate", "nc", "two"}[rnd.IntN(4)], names("P", many))}
	kind := someTypes()[slices.IndexFunc(someTypes(), func(k api.PartType) bool { return k.Name == x.Parts[0].Type })]
	var free []api.Pin
	for _, p := range x.Parts {
		for _, one := range kind.Pins[:min(2+rnd.IntN(6), len(kind.Pins))] {
			free = append(free, api.Pin{Part: p.Name, Pin: one.Name})
		}
	}
	for i := range free { // only near ones change places: so long chains are likely
		k := min(len(free)-1, i+rnd.IntN(3))
		free[i], free[k] = free[k], free[i]
	}
	for i, name := range names("N", len(free)) {
		if 2*i+2 > len(free)-rnd.IntN(3) {
			break
		}
		two := slices.Clone(free[2*i : 2*i+2])
		slices.SortFunc(two, comparePins)
		x.Nets = append(x.Nets, api.Net{Name: name, Pins: two})
	}
	return x
}

func randomPick(rnd *rand.Rand) api.Netlist {
	if rnd.IntN(2) == 0 {
		return manyAlike(rnd)
	}
	return randomList(rnd, 10, 12)
}

// N7: colours of random lists.
func TestColoursAndModel(t *testing.T) {
	rnd := rand.New(rand.NewPCG(10, 1))
	for range 3000 {
		x := randomPick(rnd)
		parts, nets, f := Colours(someTypes(), x)
		wantFault(t, "Colours", f, api.OK)
		wantParts, wantNets := modelColours(someTypes(), x)
		want(t, fmt.Sprintf("parts of %+v", x), parts, wantParts)
		want(t, fmt.Sprintf("nets of %+v", x), nets, wantNets)
		if t.Failed() {
			return
		}
	}
}

// modelPairs tells what has a colour that only one of each list has, and whether all colours are there as often.
func modelPairs(colours []int, a, b []string) ([]api.Pairing, bool) {
	in := func(colours []int, names []string, colour int) (l []string) {
		for i, c := range colours {
			if c == colour {
				l = append(l, names[i])
			}
		}
		return l
	}
	var l []api.Pairing
	alike := true
	for colour := range len(colours) {
		la, lb := in(colours[:len(a)], a, colour), in(colours[len(a):], b, colour)
		alike = alike && len(la) == len(lb)
		if len(la) == 1 && len(lb) == 1 {
			l = append(l, api.Pairing{A: la[0], B: lb[0]})
		}
	}
	slices.SortFunc(l, func(a, b api.Pairing) int { return strings.Compare(a.A, b.A) })
	return l, alike
}

func partNames(x api.Netlist) (l []string) {
	for _, p := range x.Parts {
		l = append(l, p.Name)
	}
	return l
}

func netNames(x api.Netlist) (l []string) {
	for _, n := range x.Nets {
		l = append(l, n.Name)
	}
	return l
}

// renaming is how a list is called anew: by old names.
type renaming struct{ parts, nets map[string]string }

// renamed gives all parts and nets new names, and exchanges pins of groups.
func renamed(rnd *rand.Rand, types []api.PartType, x api.Netlist) (api.Netlist, renaming) {
	r := renaming{map[string]string{}, map[string]string{}}
	newNames := func(old []string, first string, to map[string]string) {
		l := names(first, len(old))
		rnd.Shuffle(len(l), func(i, k int) { l[i], l[k] = l[k], l[i] })
		for i, name := range old {
			to[name] = l[i]
		}
	}
	newNames(partNames(x), "Q", r.parts)
	newNames(netNames(x), "M", r.nets)
	var y api.Netlist
	newPins := map[api.Pin]string{}
	for _, p := range x.Parts {
		y.Parts = append(y.Parts, api.Part{Name: r.parts[p.Name], Type: p.Type})
		kind := types[slices.IndexFunc(types, func(k api.PartType) bool { return k.Name == p.Type })]
		for i, k := range rnd.Perm(len(kind.Pins)) { // where each place goes: only to one of its group
			if modelMark(kind, i) != modelMark(kind, k) {
				continue
			}
			a, b := api.Pin{Part: p.Name, Pin: kind.Pins[i].Name}, api.Pin{Part: p.Name, Pin: kind.Pins[k].Name}
			newPins[a], newPins[b] = cmp.Or(newPins[b], b.Pin), cmp.Or(newPins[a], a.Pin)
		}
	}
	slices.SortFunc(y.Parts, func(a, b api.Part) int { return strings.Compare(a.Name, b.Name) })
	for _, n := range x.Nets {
		one := api.Net{Name: r.nets[n.Name]}
		for _, p := range n.Pins {
			one.Pins = append(one.Pins, api.Pin{Part: r.parts[p.Part], Pin: cmp.Or(newPins[p], p.Pin)})
		}
		slices.SortFunc(one.Pins, comparePins)
		y.Nets = append(y.Nets, one)
	}
	slices.SortFunc(y.Nets, func(a, b api.Net) int { return strings.Compare(a.Name, b.Name) })
	return y, r
}

// N7: Alike and Matched of random lists, of which many are nearly the same.
func TestAlikeAndModel(t *testing.T) {
	rnd := rand.New(rand.NewPCG(11, 1))
	seen := map[string]int{}
	for range 3000 {
		a := randomPick(rnd)
		b := randomPick(rnd)
		if rnd.IntN(4) > 0 {
			b, _ = renamed(rnd, someTypes(), a)
		}
		if rnd.IntN(2) == 0 && len(b.Nets) > 0 {
			n := &b.Nets[rnd.IntN(len(b.Nets))]
			n.Pins = n.Pins[:1+rnd.IntN(len(n.Pins))]
		}
		parts, nets := modelColours(someTypes(), a, b)
		wantParts, alikeParts := modelPairs(parts, partNames(a), partNames(b))
		wantNets, alikeNets := modelPairs(nets, netNames(a), netNames(b))
		what := fmt.Sprintf("%+v\n%+v", a, b)
		alike, f := Alike(someTypes(), a, b)
		wantFault(t, "Alike", f, api.OK)
		want(t, "Alike "+what, alike, alikeParts && alikeNets)
		gotParts, gotNets, f := Matched(someTypes(), a, b)
		wantFault(t, "Matched", f, api.OK)
		want(t, "Matched parts "+what, gotParts, wantParts)
		want(t, "Matched nets "+what, gotNets, wantNets)
		if t.Failed() {
			return
		}
		seen[fmt.Sprint("alike ", alike)]++
		seen[fmt.Sprint("pairs ", len(gotParts) > 0 && !alike)]++
	}
	for _, what := range []string{"alike true", "alike false", "pairs true"} {
		if seen[what] < 100 {
			t.Errorf("only %d lists are %s", seen[what], what)
		}
	}
}

// N7: some lists that are alike, and some that are not.
func TestAlike(t *testing.T) {
	for _, c := range []struct {
		what, a, b string
		want       bool
	}{
		{"both empty", "", "", true},
		{"one empty", "a:r", "", false},
		{"other names", "a:r b:r | m a.1 b.1", "x:r y:r | z x.2 y.1", true},
		{"other types", "a:r", "a:c", false},
		{"other types of another list alone", "a:c b:r", "a:c b:c", false},
		{"another kind of pin", "a:gate | n a.v", "a:gate | n a.w", false},
		{"a pin of the same group", "a:gate | n a.a", "a:gate | n a.b", true},
		{"one net more", "a:r b:r | n a.1 b.1", "a:r b:r | m a.1 | n b.1", false},
		{"a ring of four, and two of two", "a:r b:r c:r d:r | w a.1 d.2 | x a.2 b.1 | y b.2 c.1 | z c.2 d.1", "a:r b:r c:r d:r | w a.1 b.1 | x a.2 b.2 | y c.1 d.1 | z c.2 d.2", true},
	} {
		is, f := Alike(someTypes(), list(c.a), list(c.b))
		wantFault(t, c.what, f, api.OK)
		want(t, c.what, is, c.want)
	}
	is, f := Alike(someTypes(), list(""), list("a:x"))
	wantFault(t, "a broken list", f, api.ErrNone)
	wantZero(t, "a broken list", is)
}

// N7: pairs by A, parts first; none with a colour that another one has.
func TestMatched(t *testing.T) {
	a := "a:r b:r c:c d:gate | l a.1 b.1 | m a.2 c.k | n d.v"
	for _, c := range []struct {
		what, a, b  string
		parts, nets string
	}{
		{"itself", a, a, "a=a b=b c=c d=d", "l=l m=m n=n"},
		{"other names", a, "C:c G:gate S:r T:r | x C.k T.1 | y S.2 T.2 | z G.v", "a=T b=S c=C d=G", "l=y m=x n=z"},
		{"two of one colour", "a:r b:r c:c", "a:r b:r c:c", "c=c", ""},
		{"two in the other list alone", "a:r c:c", "a:r b:r c:c", "c=c", ""},
		{"nothing in the other list", "a:r", "", "", ""},
		{"some that differ", "a:r b:c c:gate d:gate | m a.1 b.k | n c.v", "A:r B:c C:gate D:gate | M A.1 | N C.v", "c=C d=D", "n=N"},
	} {
		parts, nets, f := Matched(someTypes(), list(c.a), list(c.b))
		wantFault(t, c.what, f, api.OK)
		want(t, c.what+": parts", parts, pairings(c.parts))
		want(t, c.what+": nets", nets, pairings(c.nets))
	}
	parts, nets, f := Matched(someTypes(), list("a:r"), list("a:x"))
	wantFault(t, "a broken list", f, api.ErrNone)
	wantZero(t, "a broken list", parts)
	wantZero(t, "a broken list", nets)
}

// pairings reads "A=B A=B".
func pairings(text string) []api.Pairing {
	var l []api.Pairing
	for _, word := range strings.Fields(text) {
		a, b, _ := strings.Cut(word, "=")
		l = append(l, api.Pairing{A: a, B: b})
	}
	return l
}

// longChain is as large as a list can be: each part has many pins in a net with the part before it.
func longChain(many, pinsOfOne int) ([]api.PartType, api.Netlist) {
	types := []api.PartType{wideType("w", api.PinBoth, pinsOfOne)}
	x := api.Netlist{Parts: partsOf("w", names("P", many))}
	for i, name := range names("N", many) {
		var l []api.Pin
		if i > 0 {
			l = append(l, api.Pin{Part: x.Parts[i-1].Name, Pin: types[0].Pins[0].Name})
		}
		for _, p := range types[0].Pins[1:] {
			l = append(l, api.Pin{Part: x.Parts[i].Name, Pin: p.Name})
		}
		x.Nets = append(x.Nets, api.Net{Name: name, Pins: l})
	}
	return types, x
}

// N7: lists with very many rounds.
func TestLongChains(t *testing.T) {
	types, x := longChain(api.MaxParts, api.MaxTypePins)
	parts, nets, f := Colours(types, x)
	wantFault(t, "Colours", f, api.OK)
	if slices.Max(parts) != api.MaxParts-1 || slices.Max(nets) != api.MaxNets-1 {
		t.Errorf("colours up to %d and %d", slices.Max(parts), slices.Max(nets))
	}
	pairsOfParts, pairsOfNets, f := Matched(types, x, x)
	wantFault(t, "Matched", f, api.OK)
	if len(pairsOfParts) != api.MaxParts || len(pairsOfNets) != api.MaxNets {
		t.Errorf("%d and %d pairs", len(pairsOfParts), len(pairsOfNets))
	}
}
