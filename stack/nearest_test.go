package stack

import (
	"fmt"
	"math"
	"math/rand/v2"
	"slices"
	"strings"
	"testing"

	"etchhouse/api"
)

// K2: how many sheets to take.
func TestNearest(t *testing.T) {
	const twoGlues = "a:c g b:c h c:c" // 265 with one sheet each
	for _, c := range []struct {
		what, stack  string
		most, target int
		want         []int
		thick        int
	}{
		{"no glue", "a:c k b:c", 8, 1000, nil, 270},
		{"no glue, nothing wanted", "a:c k b:c", 1, 0, nil, 270},
		{"one sheet at most", "a:c g b:c", 1, 1000, []int{1}, 170},
		{"thin enough", "a:c g b:c", 8, 0, []int{1}, 170},
		{"just it", "a:c g b:c", 8, 470, []int{4}, 470},
		{"as many as can be", "a:c g b:c", 8, 870, []int{8}, 870},
		{"more cannot be", "a:c g b:c", 8, api.MaxTarget, []int{8}, 870},
		{"nearer below", "a:c g b:c", 8, 319, []int{2}, 270},
		{"two equally near", "a:c g b:c", 8, 320, []int{2}, 270},
		{"nearer above", "a:c g b:c", 8, 321, []int{3}, 370},
		{"two layers", twoGlues, 8, 265 + 160, []int{2, 2}, 425},
		{"two layers, two equally near", twoGlues, 2, 265 + 130, []int{2, 1}, 365},
		{"two layers, nearer above", twoGlues, 2, 265 + 131, []int{2, 2}, 425},
		{"fewer sheets in all", twoGlues, 8, 265 + 300, []int{4, 1}, 565},
		{"fewer sheets in all, from below", "a:c h b:c g c:c", 8, 265 + 300, []int{1, 4}, 565},
		{"few sheets are not enough", twoGlues, 3, 265 + 300, []int{3, 3}, 265 + 320},
		{"least from the top on", "a:c g b:c g c:c", 8, 270 + 300, []int{1, 4}, 605},
		{"least from the top on, as far as can be", "a:c g b:c g c:c", 3, 305 + 300, []int{2, 3}, 605},
		{"sheets one on the other", "a:c g g b:c", 3, 270 + 300, []int{2, 3}, 570},
		{"sheets of both kinds one on the other", "a:c h g h b:c", 8, 290 + 160, []int{1, 2, 2}, 450},
		{"cores stay", "a:c k b:c g c:c l d:c", 2, 800, []int{2}, 690},
	} {
		s := layersOf(c.stack)
		numbers, thick, f := Nearest(someMaterials(), s, c.most, c.target)
		wantFault(t, c.what, f, api.OK)
		want(t, c.what, numbers, c.want)
		want(t, c.what, thick, c.thick)
	}
}

// K2: the bounds of most and target.
func TestNearestFaults(t *testing.T) {
	for _, most := range []int{math.MinInt, -1, 0, 1, api.MaxSheetsOf, api.MaxSheetsOf + 1, math.MaxInt} {
		for _, target := range []int{math.MinInt, -1, 0, api.MaxTarget, api.MaxTarget + 1, math.MaxInt} {
			what := fmt.Sprint(most, " sheets for ", target)
			numbers, thick, f := Nearest(someMaterials(), four(), most, target)
			if most < 1 || most > 8 || target < 0 || target > 1000000 {
				wantFault(t, what, f, api.ErrRange)
				wantZero(t, what, numbers)
				wantZero(t, what, thick)
			} else {
				wantFault(t, what, f, api.OK)
				want(t, what, len(numbers), 1)
			}
		}
	}
}

// allNumbers returns all ways to take sheets for so many layers, in order.
func allNumbers(layers, most int) [][]int {
	if layers == 0 {
		return [][]int{nil}
	}
	var out [][]int
	for n := range most {
		for _, rest := range allNumbers(layers-1, most) {
			out = append(out, append([]int{1 + n}, rest...))
		}
	}
	return out
}

// modelNearest tries all ways.
func modelNearest(t *testing.T, m []api.Material, s []api.Layer, most, target int) ([]int, int) {
	t.Helper()
	one, f := Thickness(m, s)
	wantFault(t, "Thickness", f, api.OK)
	var glue []int
	for _, l := range s {
		for _, one := range m {
			if one.Name == l.Material && one.Kind == api.MatGlue {
				glue = append(glue, one.Thick)
			}
		}
	}
	var best []int // how far away, how thick, how many sheets, and their numbers
	for _, numbers := range allNumbers(len(glue), most) {
		thick, sheets := one, 0
		for i, n := range numbers {
			thick += (n - 1) * glue[i]
			sheets += n
		}
		key := append([]int{max(thick-target, target-thick), thick, sheets}, numbers...)
		if best == nil || slices.Compare(key, best) < 0 {
			best = key
		}
	}
	return best[3:], best[1]
}

// K2: random stacks against all ways to take sheets.
func TestRandomNearest(t *testing.T) {
	tried(t, 1500, func(rnd *rand.Rand) {
		m, s := randomMaterials(rnd), randomStack(rnd, 2+rnd.IntN(4))
		most := 1 + rnd.IntN(4)
		target := rnd.IntN(200)
		numbers, thick, f := Nearest(m, s, most, target)
		wantNumbers, wantThick := modelNearest(t, m, s, most, target)
		what := fmt.Sprint(m, s, most, target)
		wantFault(t, what, f, api.OK)
		want(t, what, numbers, wantNumbers)
		want(t, what, thick, wantThick)
	})
}

// K2: as many layers of glue as can be, all thick, and each of another thickness.
func TestManySheets(t *testing.T) {
	m := []api.Material{material("c", api.MatCopper, 1, 0)}
	var s []api.Layer
	for i := range api.MaxMaterials - 1 {
		one := material(fmt.Sprintf("g%02d", i), api.MatGlue, api.MaxThick-i, 0)
		m = append(m, one)
		s = append(s, api.Layer{Material: one.Name})
	}
	s = slices.Concat(layersOf("a:c"), s, layersOf(strings.Repeat("g00 ", api.MaxLayers-len(s)-2)+"b:c"))
	thick, f := Thickness(m, s)
	wantFault(t, "Thickness", f, api.OK)
	for _, target := range []int{0, thick, 2 * thick, 500000, 8 * thick, api.MaxTarget} {
		numbers, n, f := Nearest(m, s, api.MaxSheetsOf, target)
		wantFault(t, "Nearest", f, api.OK)
		want(t, "layers", len(numbers), len(s)-2)
		exact := 2
		for i, many := range numbers {
			if many < 1 || many > api.MaxSheetsOf {
				t.Errorf("%d sheets", many)
			}
			exact += many * m[slices.IndexFunc(m, func(one api.Material) bool { return one.Name == s[i+1].Material })].Thick
		}
		want(t, "thickness", n, exact)
		want(t, "thickness", n, min(max(target, thick), 2+8*(thick-2)))
	}
}
