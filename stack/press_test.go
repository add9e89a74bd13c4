package stack

import (
	"fmt"
	"math"
	"math/rand/v2"
	"slices"
	"strings"
	"testing"

	"etchhouse/api"
)

// K3: the example of the chapter.
func TestExample(t *testing.T) {
	l := spansOf("1-2 1-4")
	wantFault(t, "CheckSpans", CheckSpans(someMaterials(), four(), l), api.OK)
	p, f := Presses(someMaterials(), four(), l)
	wantFault(t, "Presses", f, api.OK)
	want(t, "Presses", p, []api.Press{{From: 1, To: 2, Core: true, Holes: []int{0}}, {From: 3, To: 4, Core: true}, {From: 1, To: 4, Holes: []int{1}}})
	n, f := Cycles(someMaterials(), four(), l)
	wantFault(t, "Cycles", f, api.OK)
	want(t, "Cycles", n, []int{1, 1, 1, 1})
	wantFault(t, "with 2 to 3", CheckSpans(someMaterials(), four(), spansOf("2-3")), api.ErrClash)
}

// shown writes presses: of each From-To, a k behind it if it is a core, and its holes.
func shown(l []api.Press) string {
	var out []string
	for _, p := range l {
		text := fmt.Sprint(p.From, "-", p.To)
		if p.Core {
			text += "k"
		}
		out = append(out, text+strings.Trim(fmt.Sprint(p.Holes), "[]"))
	}
	return strings.Join(out, ", ")
}

// K3: sub-boards, and how often coppers are pressed.
func TestPresses(t *testing.T) {
	for _, c := range []struct {
		stack, spans string
		presses      string
		cycles       []int
	}{
		{"ckc", "", "1-2k", []int{0, 0}},
		{"ckc", "1-2", "1-2k0", []int{0, 0}},
		{"cgc", "", "1-2", []int{1, 1}},
		{"cgc", "1-2", "1-20", []int{1, 1}},
		{"cggggc", "1-2", "1-20", []int{1, 1}},
		{"ckcgckc", "", "1-2k, 3-4k, 1-4", []int{1, 1, 1, 1}},
		{"ckcgckc", "3-4", "1-2k, 3-4k0, 1-4", []int{1, 1, 1, 1}},
		{"ckcgckc", "1-2 1-4 3-4", "1-2k0, 3-4k2, 1-41", []int{1, 1, 1, 1}},
		{"cgckcgc", "", "2-3k, 1-4", []int{1, 1, 1, 1}},
		{"cgckcgc", "1-3 1-4 2-3", "2-3k2, 1-30, 1-41", []int{2, 2, 2, 1}},
		{"cgckcgc", "2-3 2-4", "2-3k0, 2-41, 1-4", []int{1, 2, 2, 2}},
		{"cgcgckcgcgc", "2-5 3-4", "3-4k1, 2-50, 1-6", []int{1, 2, 2, 2, 2, 1}},
		{"cgckcgcgckc", "1-3 1-4 2-3 5-6", "2-3k2, 5-6k3, 1-30, 1-41, 1-6", []int{3, 3, 3, 2, 1, 1}},
		{"cgcgc", "1-2", "1-20, 1-3", []int{2, 2, 1}},
		{"cgcgcgcgc", "1-2 4-5", "1-20, 4-51, 1-5", nil},
		{"cgcgcgcgc", "1-2 3-5 4-5", "1-20, 4-52, 3-51, 1-5", []int{2, 2, 2, 3, 3}},
		{"cgcgcgckc", "1-2 3-5", "4-5k, 1-20, 3-51, 1-5", []int{2, 2, 2, 2, 2}},
		{"ckcgckcgckc", "1-2 1-4 3-4 5-6", "1-2k0, 3-4k2, 5-6k3, 1-41, 1-6", []int{2, 2, 2, 2, 1, 1}},
		{"ckcgckcgckcgckc", "1-4 5-8", "1-2k, 3-4k, 5-6k, 7-8k, 1-40, 5-81, 1-8", []int{2, 2, 2, 2, 2, 2, 2, 2}},
		{"cgcgcgcgckc", "1-2 1-4 3-4", "5-6k, 1-20, 3-42, 1-41, 1-6", []int{3, 3, 3, 3, 1, 1}},
	} {
		what := c.stack + " with " + c.spans
		p, f := Presses(someMaterials(), kinds(c.stack), spansOf(c.spans))
		n, f2 := Cycles(someMaterials(), kinds(c.stack), spansOf(c.spans))
		if c.cycles == nil {
			wantFault(t, what, f, api.ErrState)
			wantFault(t, what, f2, api.ErrState)
			continue
		}
		wantFault(t, what, f, api.OK)
		wantFault(t, what, f2, api.OK)
		want(t, what, shown(p), c.presses)
		want(t, what, n, c.cycles)
	}
}

// manySpans returns so many spans in order, of all that so many coppers can have.
func manySpans(many, coppers int) []api.Through {
	var out []api.Through
	for from := 1; from <= coppers; from++ {
		for to := from + 1; to <= coppers && len(out) < many; to++ {
			out = append(out, api.Through{From: from, To: to})
		}
	}
	return out
}

// K3: each fault of spans, and which is told first.
func TestCheckSpans(t *testing.T) {
	const low, high = math.MinInt, math.MaxInt
	span := func(from, to int) []api.Through { return []api.Through{{From: from, To: to}} }
	long := longStack(api.MaxLayers)
	for _, c := range []struct {
		what  string
		stack []api.Layer
		spans []api.Through
		want  api.Fault
	}{
		{"from 0", four(), span(0, 2), api.ErrRange},
		{"from below 0", four(), span(-1, 2), api.ErrRange},
		{"from far below", four(), span(low, 2), api.ErrRange},
		{"to the last one", four(), span(1, 4), api.OK},
		{"to one behind the last one", four(), span(1, 5), api.ErrRange},
		{"to far behind", four(), span(1, high), api.ErrRange},
		{"all there are", four(), span(low, high), api.ErrRange},
		{"to itself", four(), span(2, 2), api.ErrRange},
		{"to the one before it", four(), span(2, 1), api.ErrRange},
		{"far back", four(), span(high, low), api.ErrRange},
		{"the same span twice", four(), spansOf("1-2 1-2"), api.ErrOrder},
		{"not in order of From", four(), spansOf("3-4 1-2"), api.ErrOrder},
		{"not in order of To", four(), spansOf("1-4 1-2"), api.ErrOrder},
		{"a later From with an earlier To", kinds("cgckc"), spansOf("1-3 2-3"), api.OK},
		{"one within the other", four(), spansOf("1-2 1-4 3-4"), api.OK},
		{"spans that share a copper", kinds("cgcgc"), spansOf("1-2 2-3"), api.ErrClash},
		{"spans that share two coppers", kinds("cgcgcgc"), spansOf("1-3 2-4"), api.ErrClash},
		{"spans that share no copper", kinds("cgcgcgc"), spansOf("1-2 3-4"), api.OK},
		{"a span that shares a copper with a core", kinds("ckcgc"), spansOf("2-3"), api.ErrClash},
		{"a span that ends within a core", kinds("cgcgckc"), spansOf("1-3"), api.ErrClash},
		{"a span that begins within a core", kinds("ckcgcgc"), spansOf("2-4"), api.ErrClash},
		{"two cores that share a copper", kinds("ckckc"), nil, api.ErrClash},
		{"two cores that share a copper, with the whole", kinds("ckckc"), spansOf("1-3"), api.ErrClash},
		{"a copper between two others", kinds("cgcgc"), nil, api.ErrState},
		{"a copper between two others, with the whole", kinds("cgcgc"), spansOf("1-3"), api.ErrState},
		{"a copper between two others in a span", kinds("cgcgcgc"), spansOf("1-3"), api.ErrState},
		{"a copper between two cores", kinds("ckcgcgckc"), nil, api.ErrState},
		{"the copper behind a span", kinds("cgcgcgc"), spansOf("1-2"), api.ErrState},
		{"the copper before a span", kinds("cgcgcgc"), spansOf("3-4"), api.ErrState},
		{"coppers one by one", kinds("cgcgcgc"), spansOf("1-2 1-3"), api.OK},
		{"coppers from both ends", kinds("cgcgcgcgcgc"), spansOf("1-5 2-4 2-3"), api.ErrOrder},
		{"coppers on both sides", kinds("cgcgcgcgcgc"), spansOf("1-5 2-3 2-4"), api.OK},
		{"held by what only shares its end", kinds("cgcgcgc"), spansOf("1-3 3-4"), api.ErrClash},
		{"as many coppers as can be, one by one", long, manySpans(28, 30), api.OK},
		{"as many with the whole", long, manySpans(29, 30), api.OK},
		{"as many but for one", long, manySpans(27, 30), api.ErrState},
		{"as many spans as can be", long, manySpans(api.MaxSpans, 30), api.ErrClash},
		{"too many", long, manySpans(api.MaxSpans+1, 30), api.ErrLarge},
		{"as many, the last one out of range", long, append(manySpans(api.MaxSpans-1, 30), api.Through{From: 30, To: 31}), api.ErrRange},
		{"too many, before the range", four(), make([]api.Through, api.MaxSpans+1), api.ErrLarge},
		{"the range before the order", four(), spansOf("1-2 0-1"), api.ErrRange},
		{"the order before the next one's range", four(), spansOf("1-2 1-2 0-0"), api.ErrOrder},
		{"the range of the next one before a clash", four(), spansOf("2-3 4-4"), api.ErrRange},
		{"the order of the next one before a clash", four(), spansOf("2-3 1-2"), api.ErrOrder},
		{"a clash before a copper that is not held", kinds("cgcgcgcgc"), spansOf("1-3 3-4"), api.ErrClash},
		{"a clash at last before a copper that is not held", kinds("cgcgcgckckc"), nil, api.ErrClash},
	} {
		for name, f := range map[string]api.Fault{
			"CheckSpans": CheckSpans(someMaterials(), c.stack, c.spans),
			"Presses":    faultOf(Presses(someMaterials(), c.stack, c.spans)),
			"Cycles":     faultOf(Cycles(someMaterials(), c.stack, c.spans)),
			"Fewest":     faultOf(Fewest(someMaterials(), c.stack, c.spans)),
			"Reached":    faultOf(Reached(someMaterials(), c.stack, c.spans, "c1")),
			"Slim":       faultOf(Slim(someMaterials(), c.stack, c.spans, slices.Repeat([]int{9}, len(c.spans)), 9)),
		} {
			wantFault(t, c.what+": "+name, f, c.want)
		}
	}
}

func faultOf[T any](_ T, f api.Fault) api.Fault { return f }

// K3: all functions with spans return CheckSpans' fault before their own.
func TestSpanFaultsFirst(t *testing.T) {
	const withSpans = "CheckSpans Presses Cycles Reached Slim Fewest"
	for _, c := range []struct {
		what  string
		stack string
		spans []api.Through
		want  api.Fault
	}{
		{"too many", "ckc", make([]api.Through, api.MaxSpans+1), api.ErrLarge},
		{"out of range", "ckc", spansOf("1-3"), api.ErrRange},
		{"not in order", "ckc", spansOf("1-2 1-2"), api.ErrOrder},
		{"a clash", "ckcgckc", spansOf("2-3"), api.ErrClash},
		{"a copper that is not held", "cgcgc", nil, api.ErrState},
	} {
		for name, f := range otherwiseWrong(someMaterials(), kinds(c.stack), c.spans) {
			if strings.Contains(withSpans, name) {
				wantFault(t, c.what+": "+name, f, c.want)
			}
		}
	}
}

// K3: the longest row of sub-boards, one within the other.
func TestManyPresses(t *testing.T) {
	s := longStack(api.MaxLayers)
	p, f := Presses(someMaterials(), s, manySpans(29, 30))
	wantFault(t, "Presses", f, api.OK)
	n, f := Cycles(someMaterials(), s, manySpans(29, 30))
	wantFault(t, "Cycles", f, api.OK)
	want(t, "Presses", len(p), 29)
	for i, one := range p {
		want(t, "press", one, api.Press{From: 1, To: i + 2, Holes: []int{i}})
		want(t, "cycles", n[i+1], 29-i)
	}
	want(t, "cycles of the first one", n[0], 29)
}

// K3: random stacks and spans against sets of coppers.
func TestRandomSpans(t *testing.T) {
	seen := map[api.Fault]int{}
	tried(t, 10000, func(rnd *rand.Rand) {
		s := randomStack(rnd, 2+rnd.IntN(7))
		many := modelOf(s, nil).many
		l := randomSpans(rnd, many)
		m := modelOf(s, l)
		what := fmt.Sprint(s, l)
		seen[m.fault()]++
		wantFault(t, what, CheckSpans(someMaterials(), s, l), m.fault())
		p, f := Presses(someMaterials(), s, l)
		wantFault(t, what, f, m.fault())
		n, f := Cycles(someMaterials(), s, l)
		wantFault(t, what, f, m.fault())
		if f != api.OK {
			wantZero(t, what, p)
			wantZero(t, what, n)
			return
		}
		want(t, what, p, m.presses())
		want(t, what, n, m.cycles())
	})
	if len(seen) != 3 || min(seen[api.OK], seen[api.ErrClash], seen[api.ErrState]) < 1000 {
		t.Errorf("faults: %v", seen)
	}
}
