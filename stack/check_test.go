package stack

import (
	"fmt"
	"math"
	"regexp"
	"slices"
	"strings"
	"testing"

	"etchhouse/api"
)

// K1: names of materials and of coppers are words.
func TestWords(t *testing.T) {
	const bytes = "ABCDEFGHIJKLMNOPQRSTUVWXYZabcdefghijklmnopqrstuvwxyz0123456789_+-#"
	hold := func(name string, want api.Fault) {
		t.Helper()
		wantFault(t, fmt.Sprintf("material %q", name), CheckMaterials([]api.Material{material(name, api.MatGlue, 1, 0)}), want)
		s := kinds("ckc")
		s[2].Name = name
		wantFault(t, fmt.Sprintf("copper %q", name), CheckStack(someMaterials(), s), want)
	}
	for b := range 256 {
		one := string([]byte{byte(b)})
		if strings.Contains(bytes, one) {
			hold(one, api.OK)
			hold("x"+one, api.OK)
		} else {
			hold(one, api.ErrName)
			hold("x"+one, api.ErrName)
		}
	}
	hold("", api.ErrName)
	hold(strings.Repeat("x", api.MaxName), api.OK)
	hold(strings.Repeat("x", api.MaxName+1), api.ErrName)
}

func manyMaterials(n int) []api.Material {
	var out []api.Material
	for i := range n {
		out = append(out, material(fmt.Sprintf("m%03d", i), api.MatGlue, 1+i, i))
	}
	return out
}

// K1: materials at each bound and one past it; each fault before those that come behind it.
func TestCheckMaterials(t *testing.T) {
	const low, high = math.MinInt, math.MaxInt
	with := func(at int, one api.Material) []api.Material {
		out := manyMaterials(3)
		one.Name = out[at].Name + one.Name
		out[at] = one
		return out
	}
	for _, c := range []struct {
		what string
		m    []api.Material
		want api.Fault
	}{
		{"none", nil, api.OK},
		{"some", someMaterials(), api.OK},
		{"as many as can be", manyMaterials(api.MaxMaterials), api.OK},
		{"too many", manyMaterials(api.MaxMaterials + 1), api.ErrLarge},
		{"too many, before the first one's name", append([]api.Material{{}}, manyMaterials(api.MaxMaterials)...), api.ErrLarge},
		{"copper", with(0, material("", api.MatCopper, 1, 1)), api.OK},
		{"core", with(1, material("", api.MatCore, 1, 1)), api.OK},
		{"glue", with(2, material("", api.MatGlue, 1, 1)), api.OK},
		{"kind 0", with(0, material("", 0, 1, 1)), api.ErrKind},
		{"kind 4", with(1, material("", 4, 1, 1)), api.ErrKind},
		{"kind -1", with(2, material("", -1, 1, 1)), api.ErrKind},
		{"the least kind", with(0, material("", low, 1, 1)), api.ErrKind},
		{"the greatest kind", with(0, material("", high, 1, 1)), api.ErrKind},
		{"thin", with(0, material("", api.MatCopper, 1, 1)), api.OK},
		{"too thin", with(0, material("", api.MatCopper, 0, 1)), api.ErrRange},
		{"much too thin", with(1, material("", api.MatCopper, low, 1)), api.ErrRange},
		{"thick", with(1, material("", api.MatCore, api.MaxThick, 1)), api.OK},
		{"too thick", with(1, material("", api.MatCore, api.MaxThick+1, 1)), api.ErrRange},
		{"much too thick", with(2, material("", api.MatCore, high, 1)), api.ErrRange},
		{"still", with(2, material("", api.MatGlue, 1, 0)), api.OK},
		{"it shrinks", with(2, material("", api.MatGlue, 1, -1)), api.ErrRange},
		{"it shrinks much", with(0, material("", api.MatGlue, 1, low)), api.ErrRange},
		{"it grows", with(0, material("", api.MatGlue, 1, api.MaxHot)), api.OK},
		{"it grows too much", with(0, material("", api.MatGlue, 1, api.MaxHot+1)), api.ErrRange},
		{"it grows much too much", with(0, material("", api.MatGlue, 1, high)), api.ErrRange},
		{"twice the same", append(manyMaterials(2), manyMaterials(2)[1]), api.ErrOrder},
		{"not in order", []api.Material{material("b", 1, 1, 1), material("a", 1, 1, 1)}, api.ErrOrder},
		{"the last one not in order", append(manyMaterials(5), manyMaterials(1)...), api.ErrOrder},
		{"in order byte by byte", []api.Material{material("#", 1, 1, 1), material("9", 1, 1, 1), material("B", 1, 1, 1), material("_", 1, 1, 1), material("a", 1, 1, 1), material("a+", 1, 1, 1)}, api.OK},
		{"a longer name first", []api.Material{material("ab", 1, 1, 1), material("a", 1, 1, 1)}, api.ErrOrder},
		{"the name before the kind", with(0, material("/", 0, 0, 0)), api.ErrName},
		{"the kind before the range", with(0, material("", 0, 0, 0)), api.ErrKind},
		{"the range before the order", []api.Material{material("b", 1, 1, 1), material("a", 1, 0, 1)}, api.ErrRange},
		{"the first one's order before the next one's name", []api.Material{material("b", 1, 1, 1), material("a", 1, 1, 1), {}}, api.ErrOrder},
		{"the first one's range before the next one's name", []api.Material{material("b", 1, 1, -1), {}}, api.ErrRange},
	} {
		wantFault(t, c.what, CheckMaterials(c.m), c.want)
		f := c.want
		if f == api.OK {
			f = api.ErrForm
		}
		wantFault(t, c.what+": CheckStack", CheckStack(c.m, nil), f)
	}
}

// longStack has so many layers, coppers at both ends, and never more than two layers of glue between two coppers.
func longStack(layers int) []api.Layer {
	letters := strings.Repeat("cg", layers/2) + "c"
	if layers%2 == 0 {
		letters = strings.Repeat("cg", layers/2-1) + "gc"
	}
	return kinds(letters)
}

// K1: stacks at each bound and one past it; each fault before those that come behind it.
func TestCheckStack(t *testing.T) {
	for _, c := range []struct {
		what string
		s    []api.Layer
		want api.Fault
	}{
		{"the example", four(), api.OK},
		{"none", nil, api.ErrForm},
		{"one copper", kinds("c"), api.ErrForm},
		{"two coppers with a core", kinds("ckc"), api.OK},
		{"two coppers with glue", kinds("cgc"), api.OK},
		{"two coppers with more glue", layersOf("a:c g h g b:d"), api.OK},
		{"as many layers as can be", longStack(api.MaxLayers), api.OK},
		{"too many layers", longStack(api.MaxLayers + 1), api.ErrLarge},
		{"too many layers, before the first one's material", append(layersOf("?"), longStack(api.MaxLayers)...), api.ErrLarge},
		{"only glue within", kinds("c" + strings.Repeat("g", api.MaxLayers-2) + "c"), api.OK},
		{"no such material", layersOf("a:c k b:x"), api.ErrNone},
		{"no material", layersOf("a:c k b:"), api.ErrNone},
		{"part of a material's name", []api.Layer{{Name: "a", Material: "cc"}}, api.ErrNone},
		{"a copper without a name", layersOf("a:c k c"), api.ErrName},
		{"a copper with no word", layersOf("a:c k b/b:c"), api.ErrName},
		{"a core with a name", layersOf("a:c b:k c:c"), api.ErrName},
		{"glue with a name", layersOf("a:c b:g c:c"), api.ErrName},
		{"a core with what is no word", []api.Layer{{Name: "a", Material: "c"}, {Name: " ", Material: "k"}, {Name: "b", Material: "c"}}, api.ErrName},
		{"two coppers with one name", layersOf("a:c k a:d"), api.ErrTwice},
		{"two far coppers with one name", layersOf("a:c k b:c g c:c g a:c"), api.ErrTwice},
		{"copper on copper", layersOf("a:c k b:c c:d"), api.ErrOrder},
		{"core on core", layersOf("a:c k l b:c"), api.ErrOrder},
		{"core on glue", layersOf("a:c k g b:c"), api.ErrOrder},
		{"glue on core", layersOf("a:c g k b:c"), api.ErrOrder},
		{"core on glue above all", layersOf("k g"), api.ErrOrder},
		{"glue at the top", layersOf("g a:c g b:c"), api.ErrForm},
		{"a core at the top", layersOf("k a:c g b:c"), api.ErrForm},
		{"glue at the bottom", layersOf("a:c g b:c g"), api.ErrForm},
		{"a core at the bottom", layersOf("a:c g b:c k"), api.ErrForm},
		{"no copper", layersOf("g h"), api.ErrForm},
		{"one copper with glue", layersOf("g a:c g"), api.ErrForm},
		{"the material before the name", layersOf("a:c k /:x"), api.ErrNone},
		{"the name before the order", layersOf("a:c c"), api.ErrName},
		{"twice before the order", layersOf("a:c a:c"), api.ErrTwice},
		{"the order before the form", layersOf("g k"), api.ErrOrder},
		{"the order before the next one's material", layersOf("a:c b:c x"), api.ErrOrder},
		{"the name before the next one's material", layersOf("a:c b:k x"), api.ErrName},
		{"twice before the next one's name", layersOf("a:c k a:c k:g"), api.ErrTwice},
		{"a material before the form", layersOf("g x"), api.ErrNone},
	} {
		wantFault(t, c.what, CheckStack(someMaterials(), c.s), c.want)
	}
}

// K1: which layers can lie on one another, of all stacks with up to seven of them.
func TestForms(t *testing.T) {
	form := regexp.MustCompile(`^c((k|g+)c)+$`)
	wrong := regexp.MustCompile(`cc|kk|kg|gk`)
	rows, seen := []string{""}, map[api.Fault]int{}
	for len(rows) > 0 {
		row := rows[0]
		rows = rows[1:]
		fault := api.OK
		if wrong.MatchString(row) {
			fault = api.ErrOrder
		} else if !form.MatchString(row) {
			fault = api.ErrForm
		}
		wantFault(t, row, CheckStack(someMaterials(), kinds(row)[:len(row)]), fault)
		seen[fault]++
		if len(row) < 7 {
			rows = append(rows, row+"c", row+"k", row+"g")
		}
	}
	if seen[api.OK] < 20 || seen[api.ErrForm] < 20 {
		t.Errorf("faults: %v", seen)
	}
}

// otherwiseWrong calls all functions with a stack, and beside it with arguments that have a fault of their own, and returns the faults.
func otherwiseWrong(m []api.Material, s []api.Layer, spans []api.Through) map[string]api.Fault {
	out := map[string]api.Fault{"CheckStack": CheckStack(m, s), "CheckSpans": CheckSpans(m, s, spans)}
	_, out["Thickness"] = Thickness(m, s)
	_, out["Depth"] = Depth(m, s, "?")
	_, out["Apart"] = Apart(m, s, "?", "?")
	_, out["Mirrored"] = Mirrored(m, s)
	_, out["Bow"] = Bow(m, s)
	_, _, out["Nearest"] = Nearest(m, s, 0, -1)
	_, out["Presses"] = Presses(m, s, spans)
	_, out["Cycles"] = Cycles(m, s, spans)
	_, out["Reached"] = Reached(m, s, spans, "?")
	_, out["Slim"] = Slim(m, s, spans, make([]int, len(spans)+1), 0)
	_, out["Fewest"] = Fewest(m, s, spans)
	_, out["Text"] = Text(m, s)
	return out
}

// K1: all functions with stacks first return CheckStack's fault.
func TestStackFaultsFirst(t *testing.T) {
	for _, c := range []struct {
		what string
		m    []api.Material
		s    []api.Layer
		want api.Fault
	}{
		{"too many materials", manyMaterials(api.MaxMaterials + 1), nil, api.ErrLarge},
		{"a material without a name", []api.Material{{}}, make([]api.Layer, api.MaxLayers+1), api.ErrName},
		{"a material of no kind", []api.Material{{Name: "x"}}, nil, api.ErrKind},
		{"a material that is too thin", []api.Material{{Name: "x", Kind: 1}}, nil, api.ErrRange},
		{"materials not in order", slices.Concat(someMaterials(), someMaterials()), four(), api.ErrOrder},
		{"too many layers", someMaterials(), make([]api.Layer, api.MaxLayers+1), api.ErrLarge},
		{"no such material", nil, four(), api.ErrNone},
		{"no name", someMaterials(), layersOf("c"), api.ErrName},
		{"a name twice", someMaterials(), layersOf("a:c k a:c"), api.ErrTwice},
		{"layers not in order", someMaterials(), layersOf("a:c b:c"), api.ErrOrder},
		{"no form", someMaterials(), layersOf("a:c g b:c g"), api.ErrForm},
	} {
		for name, f := range otherwiseWrong(c.m, c.s, make([]api.Through, api.MaxSpans+1)) {
			wantFault(t, c.what+": "+name, f, c.want)
		}
	}
}
