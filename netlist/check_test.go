package netlist

import (
	"math"
	"slices"
	"strings"
	"testing"

	"etchhouse/api"
)

// N1: words.
func TestWords(t *testing.T) {
	typed := func(name string) []api.PartType {
		return []api.PartType{{Name: name, Pins: pinTypes("p:1")}}
	}
	const letters = "ABCDEFGHIJKLMNOPQRSTUVWXYZabcdefghijklmnopqrstuvwxyz0123456789_+-#"
	for b := range 256 {
		name := "a" + string([]byte{byte(b)})
		expected := api.ErrName
		if strings.Contains(letters, name[1:]) {
			expected = api.OK
		}
		wantFault(t, "type "+name, CheckTypes(typed(name)), expected)
		wantFault(t, "pin "+name, CheckTypes([]api.PartType{{Name: "t", Pins: []api.PinType{{Name: name, Kind: api.PinIn}}}}), expected)
	}
	wantFault(t, "empty", CheckTypes(typed("")), api.ErrName)
	wantFault(t, "one byte", CheckTypes(typed("#")), api.OK)
	wantFault(t, "as long as can be", CheckTypes(typed(strings.Repeat("x", api.MaxName))), api.OK)
	wantFault(t, "too long", CheckTypes(typed(strings.Repeat("x", api.MaxName+1))), api.ErrName)
	wantFault(t, "a letter of several bytes", CheckTypes(typed("ä")), api.ErrName)
}

// N1: paths, as CheckList takes them.
func TestPaths(t *testing.T) {
	word := strings.Repeat("w", api.MaxName)
	long := strings.Join([]string{word, word, word, word}, "/")
	for _, c := range []struct {
		path string
		want bool
	}{
		{"a", true}, {"a/b", true}, {"a/b/c/d/e/f/g", true}, {word + "/" + word, true},
		{"", false}, {"/", false}, {"/a", false}, {"a/", false}, {"a//b", false}, {"a/b.c", false}, {"a b", false},
		{word + "w", false}, {"a/" + word + "w", false},
		{long + "/" + word[:api.MaxPath-len(long)-1], true},
		{long + "/" + word[:api.MaxPath-len(long)], false},
		{strings.Repeat("a/", api.MaxPath/2-1) + "ab", true},
		{strings.Repeat("a/", api.MaxPath/2-1) + "abc", false},
	} {
		expected := api.OK
		if !c.want {
			expected = api.ErrName
		}
		x := api.Netlist{Parts: []api.Part{{Name: c.path, Type: "r"}}}
		wantFault(t, "part "+c.path, CheckList(someTypes(), x), expected)
		x = list("a:r")
		x.Nets = []api.Net{{Name: c.path, Pins: pins("a.1")}}
		wantFault(t, "net "+c.path, CheckList(someTypes(), x), expected)
	}
}

func manyTypes(many int) []api.PartType {
	var l []api.PartType
	for _, name := range names("t", many) {
		l = append(l, api.PartType{Name: name, Pins: pinTypes("p:1")})
	}
	return l
}

// N1: each error, and what is at the bounds.
func TestCheckTypes(t *testing.T) {
	one := func(text string) []api.PartType { return []api.PartType{{Name: "t", Pins: pinTypes(text)}} }
	group := func(n int) []api.PartType {
		return []api.PartType{{Name: "t", Pins: []api.PinType{{Name: "p", Kind: api.PinIn, Group: n}}}}
	}
	kind := func(n int) []api.PartType {
		return []api.PartType{{Name: "t", Pins: []api.PinType{{Name: "p", Kind: n}}}}
	}
	for _, c := range []struct {
		what string
		t    []api.PartType
		want api.Fault
	}{
		{"nil", nil, api.OK},
		{"empty", []api.PartType{}, api.OK},
		{"some", someTypes(), api.OK},
		{"as many as can be", manyTypes(api.MaxTypes), api.OK},
		{"too many", manyTypes(api.MaxTypes + 1), api.ErrLarge},
		{"nil pins", []api.PartType{{Name: "t"}}, api.ErrNone},
		{"no pins", []api.PartType{{Name: "t", Pins: []api.PinType{}}}, api.ErrNone},
		{"as many pins as can be", []api.PartType{wideType("t", api.PinIn, api.MaxTypePins)}, api.OK},
		{"too many pins", []api.PartType{wideType("t", api.PinIn, api.MaxTypePins+1)}, api.ErrLarge},
		{"all kinds", one("a:1 b:2 c:3 d:4 e:5 f:6 g:7"), api.OK},
		{"kind 0", kind(0), api.ErrKind},
		{"kind 8", kind(api.PinFree + 1), api.ErrKind},
		{"kind below 0", kind(-1), api.ErrKind},
		{"least kind", kind(math.MinInt), api.ErrKind},
		{"greatest kind", kind(math.MaxInt), api.ErrKind},
		{"group at the bound", group(api.MaxTypePins), api.OK},
		{"group too great", group(api.MaxTypePins + 1), api.ErrRange},
		{"group below 0", group(-1), api.ErrRange},
		{"least group", group(math.MinInt), api.ErrRange},
		{"greatest group", group(math.MaxInt), api.ErrRange},
		{"one pin twice", one("a:1 a:1"), api.ErrOrder},
		{"pins not in order", one("b:1 a:1"), api.ErrOrder},
		{"pins byte by byte", one("#:1 +:1 -:1 10:1 9:1 B:1 _:1 a:1 ab:1"), api.OK},
		{"group of one kind", one("a:2:3 b:1 c:2:3"), api.OK},
		{"group of two kinds", one("a:2:3 b:1 c:1:3"), api.ErrClash},
		{"last group of two kinds", one("a:2:200 b:1:200"), api.ErrClash},
		{"no group of several kinds", one("a:2 b:1:0 c:3"), api.OK},
		{"one group in two types", []api.PartType{{Name: "s", Pins: pinTypes("a:1:1")}, {Name: "t", Pins: pinTypes("a:2:1")}}, api.OK},
		{"one type twice", []api.PartType{{Name: "t", Pins: pinTypes("a:1")}, {Name: "t", Pins: pinTypes("a:1")}}, api.ErrOrder},
		{"types not in order", []api.PartType{{Name: "t", Pins: pinTypes("a:1")}, {Name: "s", Pins: pinTypes("a:1")}}, api.ErrOrder},
	} {
		wantFault(t, c.what, CheckTypes(c.t), c.want)
	}
}

// N1: the first error in the order of the chapter.
func TestOrderOfErrorsOfTypes(t *testing.T) {
	fresh := func() []api.PartType {
		l := manyTypes(4)
		l[1].Pins = pinTypes("a:1:1 b:1:1 c:2:2 d:2:2 e:3")
		return l
	}
	at := func(i int, do func(*api.PinType)) func(*[]api.PartType) {
		return func(l *[]api.PartType) {
			if i < len((*l)[1].Pins) {
				do(&(*l)[1].Pins[i])
			}
		}
	}
	wantInOrder(t, fresh, []breakage[[]api.PartType]{
		{"too many types", func(l *[]api.PartType) { *l = append(*l, manyTypes(api.MaxTypes + 1)[4:]...) }, api.ErrLarge},
		{"no name", func(l *[]api.PartType) { (*l)[1].Name = "" }, api.ErrName},
		{"no pins", func(l *[]api.PartType) { (*l)[1].Pins = nil }, api.ErrNone},
		{"too many pins", func(l *[]api.PartType) {
			if pins := (*l)[1].Pins; len(pins) > 0 {
				(*l)[1].Pins = append(pins, wideType("", api.PinIn, api.MaxTypePins).Pins...)
			}
		}, api.ErrLarge},
		{"a pin without a name", at(1, func(p *api.PinType) { p.Name = "" }), api.ErrName},
		{"a pin without a kind", at(1, func(p *api.PinType) { p.Kind = 0 }), api.ErrKind},
		{"a pin of a wrong group", at(1, func(p *api.PinType) { p.Group = -1 }), api.ErrRange},
		{"a pin not in order", at(1, func(p *api.PinType) { p.Name = misplaced(p.Name) }), api.ErrOrder},
		{"a later pin without a name", at(4, func(p *api.PinType) { p.Name = "" }), api.ErrName},
		{"a group of two kinds", at(3, func(p *api.PinType) { p.Kind = api.PinBoth }), api.ErrClash},
		{"a type not in order", func(l *[]api.PartType) { (*l)[1].Name = misplaced((*l)[1].Name) }, api.ErrOrder},
		{"a later type without a name", func(l *[]api.PartType) { (*l)[2].Name = "" }, api.ErrName},
	}, CheckTypes)
}

// N1: all functions with types return the error of CheckTypes first.
func TestTypesFirst(t *testing.T) {
	bad := []api.PartType{{Name: "t", Pins: []api.PinType{{Name: "p", Kind: 9}}}}
	broken := api.Netlist{Parts: make([]api.Part, api.MaxParts+1)}
	sheets := make([]api.Sheet, api.MaxSheets+1)
	for name, f := range faultsOf(bad, sheets, broken, broken) {
		wantFault(t, name, f, api.ErrKind)
	}
}

// faultsOf calls all functions with types.
func faultsOf(types []api.PartType, sheets []api.Sheet, a, b api.Netlist) map[string]api.Fault {
	faults := faultsOfLists(types, a, b)
	faults["CheckTypes"] = CheckTypes(types)
	faults["CheckSheets"] = CheckSheets(types, sheets)
	_, faults["Flat"] = Flat(types, sheets, "none")
	return faults
}

// faultsOfLists calls all functions with types and lists: two of them, if they take two.
func faultsOfLists(types []api.PartType, a, b api.Netlist) map[string]api.Fault {
	faults := map[string]api.Fault{}
	faults["CheckList"] = CheckList(types, a)
	_, _, faults["NetOf"] = NetOf(types, a, api.Pin{})
	_, faults["Loose"] = Loose(types, a)
	_, faults["Findings"] = Findings(types, a)
	_, faults["Joined"] = Joined(types, a, "", "")
	_, faults["Without"] = Without(types, a, make([]string, api.MaxParts+1))
	_, faults["Islands"] = Islands(types, a, make([]string, api.MaxNets+1))
	_, _, faults["Colours"] = Colours(types, a)
	_, faults["Changes"] = Changes(types, a, b)
	_, faults["Alike"] = Alike(types, a, b)
	_, _, faults["Matched"] = Matched(types, a, b)
	faults["CheckMatch"] = CheckMatch(types, a, b, slices.Repeat([]api.Pairing{{}}, api.MaxParts+1), nil)
	return faults
}
