package stack

import (
	"math/rand/v2"
	"slices"
	"strings"
	"testing"

	"etchhouse/api"
)

// K1: how thick a stack is, how deep its coppers lie, and how far they are apart.
func TestThickness(t *testing.T) {
	s := layersOf("top:c k two:d g h three:c l low:d")
	n, f := Thickness(someMaterials(), s)
	wantFault(t, "Thickness", f, api.OK)
	want(t, "Thickness", n, 35+200+70+100+60+35+150+70)
	for _, c := range []struct {
		name string
		want int
	}{{"top", 0}, {"two", 235}, {"three", 465}, {"low", 650}} {
		n, f := Depth(someMaterials(), s, c.name)
		wantFault(t, c.name, f, api.OK)
		want(t, c.name, n, c.want)
	}
	for _, c := range []struct {
		a, b string
		want int
	}{{"top", "two", 200}, {"two", "three", 160}, {"three", "low", 150}, {"top", "three", 430}, {"two", "low", 345}, {"top", "low", 615}, {"top", "top", 0}, {"two", "two", 0}, {"low", "low", 0}} {
		for range 2 {
			n, f := Apart(someMaterials(), s, c.a, c.b)
			wantFault(t, c.a+" "+c.b, f, api.OK)
			want(t, c.a+" "+c.b, n, c.want)
			c.a, c.b = c.b, c.a
		}
	}
}

// K1: names of no copper.
func TestNoCopper(t *testing.T) {
	for _, name := range []string{"", "x", "k", "c", "c5", "C1", "c1 ", "c11"} {
		n, f := Depth(someMaterials(), four(), name)
		wantFault(t, "Depth "+name, f, api.ErrNone)
		wantZero(t, "Depth "+name, n)
		for _, other := range []string{"c1", "x", name} {
			n, f = Apart(someMaterials(), four(), name, other)
			wantFault(t, "Apart "+name, f, api.ErrNone)
			wantZero(t, "Apart "+name, n)
			n, f = Apart(someMaterials(), four(), other, name)
			wantFault(t, "Apart "+name, f, api.ErrNone)
			wantZero(t, "Apart "+name, n)
		}
	}
}

// K1: the thickest stack of all.
func TestThickest(t *testing.T) {
	m := []api.Material{material("c", api.MatCopper, api.MaxThick, api.MaxHot), material("g", api.MatGlue, api.MaxThick, 0)}
	s := longStack(api.MaxLayers)
	last := s[len(s)-1].Name
	n, f := Thickness(m, s)
	wantFault(t, "Thickness", f, api.OK)
	want(t, "Thickness", n, 120000)
	n, f = Depth(m, s, last)
	wantFault(t, "Depth", f, api.OK)
	want(t, "Depth", n, 118000)
	n, f = Apart(m, s, last, "c1")
	wantFault(t, "Apart", f, api.OK)
	want(t, "Apart", n, 116000)
	n, f = Bow(m, s) // coppers are the layers 0, 2 and so on to 56, and 59
	wantFault(t, "Bow", f, api.OK)
	want(t, "Bow", n, 2000*1000*((2*(28*29+59)+30)*2000-30*120000))
}

// K1: a mirrored stack; one that is its own mirrored one; mirrored twice.
func TestMirrored(t *testing.T) {
	for _, c := range []struct{ stack, want string }{
		{"a:c k b:d", "b:d k a:c"},
		{"a:c k b:d g h c:c", "c:c h g b:d k a:c"},
		{"a:c g b:d g c:c", "c:c g b:d g a:c"},
	} {
		s, f := Mirrored(someMaterials(), layersOf(c.stack))
		wantFault(t, c.stack, f, api.OK)
		want(t, c.stack, s, layersOf(c.want))
		s, f = Mirrored(someMaterials(), s)
		wantFault(t, c.stack, f, api.OK)
		want(t, c.stack, s, layersOf(c.stack))
	}
	s, f := Mirrored(someMaterials(), longStack(api.MaxLayers))
	wantFault(t, "the longest", f, api.OK)
	want(t, "the longest", len(s), api.MaxLayers)
	wantFault(t, "the longest", CheckStack(someMaterials(), s), api.OK)
}

// K1, K2: random stacks against sums over each layer, and for the bow over each micrometre.
func TestRandomThickness(t *testing.T) {
	tried(t, 300, func(rnd *rand.Rand) {
		m, s := randomMaterials(rnd), randomStack(rnd, 2+rnd.IntN(6))
		of := func(l api.Layer) api.Material {
			return m[slices.IndexFunc(m, func(one api.Material) bool { return one.Name == l.Material })]
		}
		var rows []int // how much each micrometre grows
		tops, ends := map[string]int{}, map[string]int{}
		for _, l := range s {
			tops[l.Name] = len(rows)
			rows = append(rows, slices.Repeat([]int{of(l).Grow}, of(l).Thick)...)
			ends[l.Name] = len(rows)
		}
		n, _ := Thickness(m, s)
		want(t, "Thickness", n, len(rows))
		bow := 0
		for at, grow := range rows {
			bow += grow * (2*at + 1 - len(rows))
		}
		n, f := Bow(m, s)
		wantFault(t, "Bow", f, api.OK)
		want(t, "Bow", n, bow)
		mirrored, _ := Mirrored(m, s)
		n, f = Bow(m, mirrored)
		wantFault(t, "Bow of the mirrored stack", f, api.OK)
		want(t, "Bow of the mirrored stack", n, -bow)
		for _, a := range s {
			if a.Name == "" {
				continue
			}
			n, _ = Depth(m, s, a.Name)
			want(t, "Depth", n, tops[a.Name])
			for _, b := range s {
				if b.Name != "" {
					n, _ = Apart(m, s, a.Name, b.Name)
					want(t, "Apart", n, max(0, tops[b.Name]-ends[a.Name], tops[a.Name]-ends[b.Name]))
				}
			}
		}
	})
}

// K2: by how much stacks bow.
func TestBow(t *testing.T) {
	for _, c := range []struct {
		stack string
		want  int
	}{
		{"a:c k b:c", 0},
		{"a:d k b:d", 0},
		{"a:c k b:c g c:c k d:c", 0},
		{"a:c g h g b:c", 0},
		{"a:c g b:d k c:d g d:c", 0},
		{"a:c k b:d", 35*1*(35-305) + 200*2*(70+200-305)},
		{"b:d k a:c", 35*1*(305-35) + 200*2*(305-70-200)},
		{"a:c g h b:c", 100*3*(70+100-230) + 60*7*(270+60-230)},
	} {
		n, f := Bow(someMaterials(), layersOf(c.stack))
		wantFault(t, c.stack, f, api.OK)
		want(t, c.stack, n, c.want)
	}
}

// K2: what follows: the bow of a mirrored stack is the contrary; a stack that is its own mirrored one, but for names, does not bow.
func TestOwnMirrored(t *testing.T) {
	bowed := 0
	tried(t, 300, func(rnd *rand.Rand) {
		m, half := randomMaterials(rnd), randomStack(rnd, 2+rnd.IntN(4))
		other, _ := Mirrored(m, half)
		for i := range other {
			if other[i].Name != "" {
				other[i].Name = strings.Replace(other[i].Name, "n", "m", 1)
			}
		}
		glue := layersOf("g")
		if rnd.IntN(2) == 0 {
			glue = layersOf("k")
		}
		for _, s := range [][]api.Layer{slices.Concat(half, glue, other), slices.Concat(half, other[1:])} {
			n, f := Bow(m, s)
			wantFault(t, "its own mirrored one", f, api.OK)
			want(t, "its own mirrored one", n, 0)
		}
		there, f := Bow(m, half)
		wantFault(t, "a stack", f, api.OK)
		back, f := Bow(m, other)
		wantFault(t, "the mirrored one", f, api.OK)
		want(t, "the mirrored one", back, -there)
		if there != 0 {
			bowed++
		}
	})
	if bowed < 100 {
		t.Errorf("only %d stacks bow", bowed)
	}
}
