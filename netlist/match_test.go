package netlist

import (
	"fmt"
	"math/rand/v2"
	"slices"
	"testing"

	"etchhouse/api"
)

// N8: each error alone, and what is at the bounds.
func TestCheckMatch(t *testing.T) {
	const a = "a:r b:r c:c d:gate | l a.1 b.1 | m a.2 c.k | n b.2 d.a d.b"
	const b = "A:r B:r C:c D:gate | L A.1 B.2 | M A.2 C.k | N B.1 D.a D.b"
	const allParts, allNets = "a=A b=B c=C d=D", "l=L m=M n=N"
	for _, c := range []struct {
		what, a, b  string
		parts, nets string
		want        api.Fault
	}{
		{"nothing", a, b, "", "", api.OK},
		{"all", a, b, allParts, allNets, api.OK},
		{"no parts: pins of none count", a, b, "", "l=N m=L n=M", api.OK},
		{"no nets", a, b, allParts, "", api.OK},
		{"some", a, b, "b=B d=D", "n=N", api.OK},
		{"no part of a", a, b, "A=A", "", api.ErrNone},
		{"no part of b", a, b, "a=a", "", api.ErrNone},
		{"no name", a, b, "=", "", api.ErrNone},
		{"another type", a, b, "a=C", "", api.ErrType},
		{"A twice", a, b, "a=A a=B", "", api.ErrOrder},
		{"parts not in order", a, b, "b=A a=B", "", api.ErrOrder},
		{"B twice", a, b, "a=B b=B", "", api.ErrTwice},
		{"B twice, not one behind the other", a, b, "a=B c=C b=B", "", api.ErrOrder},
		{"no net of a", a, b, allParts, "L=L", api.ErrNone},
		{"no net of b", a, b, allParts, "l=l", api.ErrNone},
		{"net A twice", a, b, "", "l=L l=M", api.ErrOrder},
		{"nets not in order", a, b, "", "m=M l=L", api.ErrOrder},
		{"net B twice", a, b, "", "l=L m=L", api.ErrTwice},
		{"other pins", a, b, allParts, "l=M", api.ErrClash},
		{"a net with fewer pins of parts in pairs", a, b, "a=A b=B c=C", "l=N", api.ErrClash},
		{"a net with more pins of parts in pairs", "a:r | l a.1", "a:r b:r | l a.1 b.1", "a=a", "l=l", api.OK},
		{"more pins, and a part in no pair", "a:r b:r | l a.1", "a:r b:r | l a.1 b.1", "a=a b=b", "l=l", api.ErrClash},
		{"fewer pins", "a:r b:r | l a.1 b.1", "a:r b:r | l a.1", "a=a b=b", "l=l", api.ErrClash},
		{"another mark", "d:gate | l d.v", "d:gate | l d.w", "d=d", "l=l", api.ErrClash},
		{"the same mark", "d:gate | l d.a", "d:gate | l d.b", "d=d", "l=l", api.OK},
		{"two of a mark against one", "d:gate | l d.a d.b", "d:gate | l d.b", "d=d", "l=l", api.ErrClash},
		{"parts of one type that are not in a pair with each other", "a:r b:r | l a.1", "a:r b:r | l b.1", "a=a b=b", "l=l", api.ErrClash},
	} {
		f := CheckMatch(someTypes(), list(c.a), list(c.b), pairings(c.parts), pairings(c.nets))
		wantFault(t, c.what, f, c.want)
	}
}

// same pairs each name with itself.
func same(names []string) []api.Pairing {
	var l []api.Pairing
	for _, name := range names {
		l = append(l, api.Pairing{A: name, B: name})
	}
	return l
}

// N8: so many pairs as there can be, and one more.
func TestManyPairs(t *testing.T) {
	x := listOfNets(api.MaxNets)
	x.Parts = append(x.Parts, partsOf("r", names("S", api.MaxParts-len(x.Parts)))...)
	parts, nets := same(partNames(x)), same(netNames(x))
	wantFault(t, "as many as can be", CheckMatch(someTypes(), x, x, parts, nets), api.OK)
	more := api.Pairing{A: "z", B: "z"}
	wantFault(t, "too many parts", CheckMatch(someTypes(), x, x, append(parts, more), nets), api.ErrLarge)
	wantFault(t, "too many nets", CheckMatch(someTypes(), x, x, parts, append(nets, more)), api.ErrLarge)
	wantFault(t, "too many nets before other errors", CheckMatch(someTypes(), x, x, []api.Pairing{more}, append(nets, more)), api.ErrLarge)
}

// N8: the first error in the order of the chapter.
func TestOrderOfErrorsOfMatches(t *testing.T) {
	type match struct{ parts, nets []api.Pairing }
	x := list("a:c b:c c:c d:c e:r | k a.k | l b.k | m c.k | n e.1")
	fresh := func() match { return match{same([]string{"a", "b", "c", "d"}), same([]string{"k", "l", "m", "n"})} }
	part := func(i int, b string) func(*match) { return func(m *match) { m.parts[i].B = b } }
	net := func(i int, b string) func(*match) { return func(m *match) { m.nets[i].B = b } }
	notIn := func(l []api.Pairing) {
		if l[1].B == l[1].A {
			l[1].A = "a"
		}
	}
	wantInOrder(t, fresh, []breakage[match]{
		{"too many parts", func(m *match) { m.parts = append(m.parts, make([]api.Pairing, api.MaxParts)...) }, api.ErrLarge},
		{"no part of b", part(0, ""), api.ErrNone},
		{"a part not in order", func(m *match) { notIn(m.parts) }, api.ErrOrder},
		{"a part twice", part(2, "a"), api.ErrTwice},
		{"another type", part(3, "e"), api.ErrType},
		{"no net of b", net(1, ""), api.ErrNone},
		{"a net twice", net(2, "k"), api.ErrTwice},
		{"a later net that is not there", func(m *match) { m.nets[3].A = "o" }, api.ErrNone},
	}, func(m match) api.Fault { return CheckMatch(someTypes(), x, x, m.parts, m.nets) })
	wantFault(t, "type before order", CheckMatch(someTypes(), x, x, pairings("b=b a=e"), nil), api.ErrType)
	wantFault(t, "order before twice", CheckMatch(someTypes(), x, x, pairings("b=b a=b"), nil), api.ErrOrder)
	wantFault(t, "nets that clash after all pairs", CheckMatch(someTypes(), x, x, pairings("a=b"), pairings("k=k l=l m=m n=o")), api.ErrNone)
	wantFault(t, "nets in order before twice", CheckMatch(someTypes(), x, x, nil, pairings("l=k k=k")), api.ErrOrder)
	wantFault(t, "nets of other types", CheckMatch(someTypes(), x, x, nil, pairings("k=n n=k")), api.OK)
}

func pairsOfRenaming(names []string, to map[string]string) []api.Pairing {
	var l []api.Pairing
	for _, name := range names {
		l = append(l, api.Pairing{A: name, B: to[name]})
	}
	return l
}

// N8, what follows: lists that are the same but for their names are Alike, and what is Matched of them belongs together.
func TestRenamedLists(t *testing.T) {
	rnd := rand.New(rand.NewPCG(12, 1))
	matched := 0
	for range 1500 {
		a := randomPick(rnd)
		b, r := renamed(rnd, someTypes(), a)
		what := fmt.Sprintf("%+v\n%+v", a, b)
		wantFault(t, "renamed", CheckList(someTypes(), b), api.OK)
		is, f := Alike(someTypes(), a, b)
		wantFault(t, "Alike", f, api.OK)
		want(t, what, is, true)
		allParts, allNets := pairsOfRenaming(partNames(a), r.parts), pairsOfRenaming(netNames(a), r.nets)
		wantFault(t, what, CheckMatch(someTypes(), a, b, allParts, allNets), api.OK)
		parts, nets, f := Matched(someTypes(), a, b)
		wantFault(t, "Matched", f, api.OK)
		wantFault(t, what, CheckMatch(someTypes(), a, b, parts, nets), api.OK)
		for _, p := range parts {
			want(t, what, p.B, r.parts[p.A])
		}
		for _, p := range nets {
			want(t, what, p.B, r.nets[p.A])
		}
		matched += len(parts) + len(nets)
	}
	if matched < 5000 {
		t.Errorf("only %d pairs", matched)
	}
}

// sameBut says whether two lists are the same if parts and nets are called as in the other one, and pins of groups are one.
func sameBut(types []api.PartType, a, b api.Netlist, parts, nets map[string]string) bool {
	ends := func(x api.Netlist, n api.Net, to func(string) string) []string {
		var l []string
		for _, p := range n.Pins {
			part := x.Parts[slices.IndexFunc(x.Parts, func(one api.Part) bool { return one.Name == p.Part })]
			kind := types[slices.IndexFunc(types, func(k api.PartType) bool { return k.Name == part.Type })]
			place := slices.IndexFunc(kind.Pins, func(one api.PinType) bool { return one.Name == p.Pin })
			l = append(l, fmt.Sprint(to(p.Part), " ", modelMark(kind, place)))
		}
		slices.Sort(l)
		return l
	}
	for _, n := range a.Nets {
		other := b.Nets[slices.IndexFunc(b.Nets, func(m api.Net) bool { return m.Name == nets[n.Name] })]
		mine := ends(a, n, func(name string) string { return parts[name] })
		if !slices.Equal(mine, ends(b, other, func(name string) string { return name })) {
			return false
		}
	}
	return true
}

// N8, what follows: if all parts and nets are in pairs that are right, the lists are the same but for names and pins that can be exchanged; if not, they are not so by these pairs.
func TestAllInPairs(t *testing.T) {
	rnd := rand.New(rand.NewPCG(13, 1))
	seen := map[api.Fault]int{}
	for range 4000 {
		a := manyAlike(rnd)
		a.Parts = a.Parts[:min(len(a.Parts), 4)]
		a.Nets = slices.DeleteFunc(a.Nets, func(n api.Net) bool {
			return slices.ContainsFunc(n.Pins, func(p api.Pin) bool { return !slices.Contains(partNames(a), p.Part) })
		})
		b, r := renamed(rnd, someTypes(), a)
		swap := func(l []string, to map[string]string) {
			if len(l) > 1 && rnd.IntN(2) == 0 {
				i, k := l[rnd.IntN(len(l))], l[rnd.IntN(len(l))]
				to[i], to[k] = to[k], to[i]
			}
		}
		swap(partNames(a), r.parts)
		swap(netNames(a), r.nets)
		f := CheckMatch(someTypes(), a, b, pairsOfRenaming(partNames(a), r.parts), pairsOfRenaming(netNames(a), r.nets))
		expected := api.OK
		if !sameBut(someTypes(), a, b, r.parts, r.nets) {
			expected = api.ErrClash
		}
		wantFault(t, fmt.Sprintf("%+v\n%+v\n%+v", a, b, r), f, expected)
		seen[f]++
	}
	if seen[api.OK] < 500 || seen[api.ErrClash] < 500 {
		t.Errorf("faults: %v", seen)
	}
}
