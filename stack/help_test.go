package stack

import (
	"fmt"
	"math/rand/v2"
	"reflect"
	"strconv"
	"strings"
	"testing"

	"etchhouse/api"
)

func wantFault(t *testing.T, what string, got, want api.Fault) {
	t.Helper()
	if got != want {
		t.Errorf("%s: fault %d, want %d", what, got, want)
	}
}

// want holds results against each other; nil and an empty list are the same.
func want(t *testing.T, what string, got, want any) {
	t.Helper()
	if g, w := fmt.Sprintf("%+v", got), fmt.Sprintf("%+v", want); g != w {
		t.Errorf("%s:\ngot  %s\nwant %s", what, g, w)
	}
}

// wantZero holds that a result that comes with a fault is zero.
func wantZero(t *testing.T, what string, got any) {
	t.Helper()
	v := reflect.ValueOf(got)
	if !v.IsZero() && !(v.Kind() == reflect.Slice && v.Len() == 0) {
		t.Errorf("%s: got %+v beside a fault", what, got)
	}
}

// tried calls a function many times with a source of numbers.
func tried(t *testing.T, times int, f func(rnd *rand.Rand)) {
	t.Helper()
	rnd := rand.New(rand.NewPCG(4, 4))
	for range times {
		if f(rnd); t.Failed() {
			return
		}
	}
}

func material(name string, kind, thick, grow int) api.Material {
	return api.Material{Name: name, Kind: kind, Thick: thick, Grow: grow}
}

// someMaterials has two of each kind.
func someMaterials() []api.Material {
	return []api.Material{
		material("c", api.MatCopper, 35, 1), material("d", api.MatCopper, 70, 0),
		material("g", api.MatGlue, 100, 3), material("h", api.MatGlue, 60, 7),
		material("k", api.MatCore, 200, 2), material("l", api.MatCore, 150, 5),
	}
}

// layersOf makes layers of their materials, and names in front of these where there are such.
func layersOf(text string) []api.Layer {
	var out []api.Layer
	for _, word := range strings.Fields(text) {
		name, one, ok := strings.Cut(word, ":")
		if !ok {
			name, one = "", word
		}
		out = append(out, api.Layer{Name: name, Material: one})
	}
	return out
}

// kinds makes layers of a letter each: the materials c, k, g. The coppers are called c1, c2 and so on.
func kinds(letters string) []api.Layer {
	var out []api.Layer
	coppers := 0
	for _, letter := range strings.Split(letters, "") {
		one := api.Layer{Material: letter}
		if letter == "c" {
			coppers++
			one.Name = "c" + strconv.Itoa(coppers)
		}
		out = append(out, one)
	}
	return out
}

// four has the coppers, the cores and the glue of the example.
func four() []api.Layer { return kinds("ckcgckc") }

// spansOf reads spans like 1-2.
func spansOf(text string) []api.Through {
	var out []api.Through
	for _, word := range strings.Fields(text) {
		from, to, _ := strings.Cut(word, "-")
		var one api.Through
		one.From, _ = strconv.Atoi(from)
		one.To, _ = strconv.Atoi(to)
		out = append(out, one)
	}
	return out
}

// randomMaterials has two of each kind.
func randomMaterials(rnd *rand.Rand) []api.Material {
	out := someMaterials()
	for i := range out {
		out[i].Thick, out[i].Grow = 1+rnd.IntN(9), rnd.IntN(4)
	}
	return out
}

// randomStack has no fault; its materials are those of someMaterials.
func randomStack(rnd *rand.Rand, coppers int) []api.Layer {
	of := func(names string) string { i := rnd.IntN(len(names)); return names[i : i+1] }
	var out []api.Layer
	for i := range coppers {
		if i > 0 && rnd.IntN(3) == 0 {
			out = append(out, api.Layer{Material: of("kl")})
		} else if i > 0 {
			for range 1 + rnd.IntN(2) {
				out = append(out, api.Layer{Material: of("gh")})
			}
		}
		out = append(out, api.Layer{Name: "n" + strconv.Itoa(rnd.IntN(10)) + "-" + strconv.Itoa(i), Material: of("cd")})
	}
	return out
}

// randomSpans are in order; most of them go together.
func randomSpans(rnd *rand.Rand, coppers int) []api.Through {
	one := func() api.Through {
		from := 1 + rnd.IntN(coppers-1)
		return api.Through{From: from, To: from + 1 + rnd.IntN(coppers-from)}
	}
	picked := map[api.Through]bool{}
	for range rnd.IntN(12) {
		next, goesWell := one(), true
		for other := range picked {
			goesWell = goesWell && (next.To < other.From || other.To < next.From ||
				next.From >= other.From && next.To <= other.To || other.From >= next.From && other.To <= next.To)
		}
		if goesWell || rnd.IntN(20) == 0 {
			picked[next] = true
		}
	}
	var out []api.Through
	for from := 1; from <= coppers; from++ {
		for to := from + 1; to <= coppers; to++ {
			if picked[api.Through{From: from, To: to}] {
				out = append(out, api.Through{From: from, To: to})
			}
		}
	}
	return out
}
