package stack

import (
	"fmt"
	"math"
	"math/rand/v2"
	"slices"
	"strings"
	"testing"

	"etchhouse/api"
)

// K4: coppers that can be joined by holes.
func TestReached(t *testing.T) {
	for _, c := range []struct {
		stack, spans string
		want         []string // groups of coppers
	}{
		{"ckc", "", []string{"1", "2"}},
		{"ckc", "1-2", []string{"1 2"}},
		{"ckcgckc", "", []string{"1", "2", "3", "4"}},
		{"ckcgckc", "1-2", []string{"1 2", "3", "4"}},
		{"ckcgckc", "3-4", []string{"1", "2", "3 4"}},
		{"ckcgckc", "1-2 3-4", []string{"1 2", "3 4"}},
		{"ckcgckc", "1-4", []string{"1 2 3 4"}},
		{"ckcgckc", "1-2 1-4", []string{"1 2 3 4"}},
		{"cgckcgc", "2-3", []string{"1", "2 3", "4"}},
		{"cgckcgc", "1-3 2-3", []string{"1 2 3", "4"}},
		{"cgcgcgcgckc", "1-2 1-4 3-4", []string{"1 2 3 4", "5", "6"}},
		{"cgcgc", "1-2", []string{"1 2", "3"}},
	} {
		for _, group := range c.want {
			var names []string
			for _, n := range strings.Fields(group) {
				names = append(names, "c"+n)
			}
			for _, name := range names {
				r, f := Reached(someMaterials(), kinds(c.stack), spansOf(c.spans), name)
				wantFault(t, c.stack, f, api.OK)
				want(t, fmt.Sprint(c.stack, " with ", c.spans, " from ", name), r, names)
			}
		}
	}
	s := layersOf("z:c k a:c g m:d k b:d")
	r, f := Reached(someMaterials(), s, spansOf("1-4"), "m")
	wantFault(t, "from the top", f, api.OK)
	want(t, "from the top", r, []string{"z", "a", "m", "b"})
	for _, name := range []string{"", "k", "c", "x", "Z", "z "} {
		r, f := Reached(someMaterials(), s, spansOf("1-4"), name)
		wantFault(t, "no copper "+name, f, api.ErrNone)
		wantZero(t, "no copper "+name, r)
	}
}

// K4: holes that are too deep for their size, just deep enough, and one micrometre more.
func TestSlim(t *testing.T) {
	s := layersOf("a:c k b:d g c:c k d:c") // 1-2 is 305 deep, 3-4 270, all 675
	for _, c := range []struct {
		what, spans string
		sizes       []int
		most        int
		want        []int
	}{
		{"none", "", nil, 10, nil},
		{"as deep as its size", "1-2", []int{305}, 10, nil},
		{"deeper than its size", "1-2", []int{304}, 10, []int{0}},
		{"the lower core", "3-4", []int{270}, 10, nil},
		{"the lower core, too deep", "3-4", []int{269}, 10, []int{0}},
		{"the whole", "1-4", []int{675}, 10, nil},
		{"the whole, too deep", "1-4", []int{674}, 10, []int{0}},
		{"ten times its size", "1-4", []int{68}, 100, nil},
		{"more than ten times its size", "1-4", []int{67}, 100, []int{0}},
		{"tenths", "1-2", []int{61}, 50, nil},
		{"a tenth less", "1-2", []int{61}, 49, []int{0}},
		{"a tenth of its size", "1-2", []int{api.MaxThick}, 1, []int{0}},
		{"not quite two tenths", "1-2", []int{api.MaxThick}, 2, nil},
		{"a hundred times its size is not enough", "1-2", []int{1}, 1000, []int{0}},
		{"some of all", "1-2 1-4 3-4", []int{30, 68, 26}, 100, []int{0, 2}},
		{"some others of all", "1-2 1-4 3-4", []int{31, 67, 27}, 100, []int{1}},
		{"all", "1-2 1-4 3-4", []int{1, 1, 1}, 10, []int{0, 1, 2}},
	} {
		r, f := Slim(someMaterials(), s, spansOf(c.spans), c.sizes, c.most)
		wantFault(t, c.what, f, api.OK)
		want(t, c.what, r, c.want)
	}
	m := []api.Material{material("c", api.MatCopper, 10, 0), material("k", api.MatCore, 80, 0)}
	for _, c := range []struct {
		most int
		want []int
	}{{1000, nil}, {999, []int{0}}} {
		r, f := Slim(m, kinds("ckc"), spansOf("1-2"), []int{1}, c.most)
		wantFault(t, "a hundred times its size", f, api.OK)
		want(t, fmt.Sprint("a hundred times its size, at most ", c.most), r, c.want)
	}
}

// K4: faults of Slim, in their order.
func TestSlimFaults(t *testing.T) {
	for _, c := range []struct {
		what  string
		sizes []int
		most  int
		want  api.Fault
	}{
		{"right", []int{1, 1}, 1, api.OK},
		{"at the bounds", []int{1, api.MaxThick}, 1000, api.OK},
		{"no sizes", nil, 10, api.ErrForm},
		{"too few sizes", []int{1}, 10, api.ErrForm},
		{"too many sizes", []int{1, 1, 1}, 10, api.ErrForm},
		{"size 0", []int{0, 1}, 10, api.ErrRange},
		{"size -1", []int{1, -1}, 10, api.ErrRange},
		{"the least size", []int{1, math.MinInt}, 10, api.ErrRange},
		{"too great a size", []int{api.MaxThick + 1, 1}, 10, api.ErrRange},
		{"a second size that is too great", []int{1, api.MaxThick + 1}, 10, api.ErrRange},
		{"the greatest size", []int{1, math.MaxInt}, 10, api.ErrRange},
		{"most 0", []int{1, 1}, 0, api.ErrRange},
		{"most -1", []int{1, 1}, -1, api.ErrRange},
		{"the least most", []int{1, 1}, math.MinInt, api.ErrRange},
		{"most 1001", []int{1, 1}, 1001, api.ErrRange},
		{"the greatest most", []int{1, 1}, math.MaxInt, api.ErrRange},
		{"the form before the sizes", []int{0, 0, 0}, 10, api.ErrForm},
		{"the form before most", []int{1}, 0, api.ErrForm},
	} {
		r, f := Slim(someMaterials(), four(), spansOf("1-2 1-4"), c.sizes, c.most)
		wantFault(t, c.what, f, c.want)
		if f != api.OK {
			wantZero(t, c.what, r)
		}
	}
	_, f := Slim(someMaterials(), four(), nil, nil, 0)
	wantFault(t, "most without spans", f, api.ErrRange)
	_, f = Slim(someMaterials(), four(), nil, []int{1}, 1)
	wantFault(t, "a size without spans", f, api.ErrForm)
}

// K4: spans that are not needed.
func TestFewest(t *testing.T) {
	for _, c := range []struct{ what, stack, spans, want string }{
		{"none", "ckc", "", ""},
		{"one", "ckc", "1-2", "1-2"},
		{"the whole is enough", "ckcgckc", "1-2 1-4 3-4", "1-4"},
		{"the example", "ckcgckc", "1-2 1-4", "1-4"},
		{"all are needed", "ckcgckc", "1-2 3-4", "1-2 3-4"},
		{"needed to be pressed", "cgcgc", "1-2 1-3", "1-2 1-3"},
		{"needed to be pressed one by one", "cgcgcgc", "1-2 1-3 1-4", "1-2 1-3 1-4"},
		{"within another one", "cgckcgc", "1-3 1-4 2-3", "1-4"},
		{"within another one that stays", "cgckcgc", "1-3 2-3", "1-3"},
		{"the later one goes", "cgcgcgckc", "1-3 2-3 4-5", "1-3 2-3 4-5"},
		{"held by another one that is longer", "cgcgckcgc", "1-5 2-4 2-5", "1-5 2-4"},
		{"held by the last one alone", "cgcgckcgc", "1-5 2-5 3-4", "1-5 2-5"},
		{"the last one goes first", "cgckcgcgckc", "1-3 1-4 1-6 2-3 5-6", "1-4 1-6"},
	} {
		l, f := Fewest(someMaterials(), kinds(c.stack), spansOf(c.spans))
		wantFault(t, c.what, f, api.OK)
		want(t, c.what, l, spansOf(c.want))
	}
	l, f := Fewest(someMaterials(), longStack(api.MaxLayers), manySpans(29, 30))
	wantFault(t, "one by one", f, api.OK)
	want(t, "one by one", l, manySpans(29, 30))
}

// K4: random stacks and spans against sets of coppers, and what follows: with the whole stack among the spans each copper is reached; the fewest spans reach the same.
func TestRandomHoles(t *testing.T) {
	right, less, wholes := 0, 0, 0
	tried(t, 10000, func(rnd *rand.Rand) {
		s := randomStack(rnd, 2+rnd.IntN(7))
		l := randomSpans(rnd, modelOf(s, nil).many)
		m := modelOf(s, l)
		if m.fault() != api.OK {
			return
		}
		right++
		what := fmt.Sprint(s, l)
		fewest, f := Fewest(someMaterials(), s, l)
		wantFault(t, what, f, api.OK)
		var needed []api.Through
		for _, i := range m.fewest() {
			needed = append(needed, l[i])
		}
		want(t, what, fewest, needed)
		wantFault(t, what, CheckSpans(someMaterials(), s, fewest), api.OK)
		if len(fewest) < len(l) {
			less++
		}
		whole := slices.Contains(m.spans, setOf(1, m.many))
		if whole {
			wholes++
		}
		number := 0
		for _, layer := range s {
			if layer.Name == "" {
				continue
			}
			number++
			reached, f := Reached(someMaterials(), s, l, layer.Name)
			wantFault(t, what, f, api.OK)
			want(t, what, reached, namesIn(s, m.reached(number)))
			again, f := Reached(someMaterials(), s, fewest, layer.Name)
			wantFault(t, what, f, api.OK)
			want(t, what, again, reached)
			if whole {
				want(t, what, len(reached), m.many)
			}
		}
	})
	if right < 2000 || less < 500 || wholes < 1000 {
		t.Errorf("%d right, %d with fewer spans, %d with the whole", right, less, wholes)
	}
}

func namesIn(s []api.Layer, set coppers) []string {
	var out []string
	number := 0
	for _, l := range s {
		if l.Name != "" {
			number++
			if set.has(number) {
				out = append(out, l.Name)
			}
		}
	}
	return out
}

// K4: random sizes against the depths that Depth and Apart tell.
func TestRandomSlim(t *testing.T) {
	seen := 0
	tried(t, 3000, func(rnd *rand.Rand) {
		m, s := randomMaterials(rnd), randomStack(rnd, 2+rnd.IntN(5))
		many := modelOf(s, nil).many
		l := randomSpans(rnd, many)
		if CheckSpans(m, s, l) != api.OK {
			return
		}
		coppers := slices.DeleteFunc(slices.Clone(s), func(one api.Layer) bool { return one.Name == "" })
		thick := map[string]int{}
		for _, one := range m {
			thick[one.Name] = one.Thick
		}
		most := 1 + rnd.IntN(30)
		var sizes, tooDeep []int
		for i, one := range l {
			first, last := coppers[one.From-1], coppers[one.To-1]
			deep, _ := Apart(m, s, first.Name, last.Name)
			deep += thick[first.Material] + thick[last.Material]
			size := 1 + rnd.IntN(2*deep)
			if rnd.IntN(2) == 0 {
				size = max(1, 10*deep/most-rnd.IntN(2))
			}
			sizes = append(sizes, size)
			if 10*deep > most*size {
				tooDeep = append(tooDeep, i)
				seen++
			}
		}
		r, f := Slim(m, s, l, sizes, most)
		wantFault(t, "Slim", f, api.OK)
		want(t, "Slim", r, tooDeep)
	})
	if seen < 300 {
		t.Errorf("only %d holes are too deep", seen)
	}
}
