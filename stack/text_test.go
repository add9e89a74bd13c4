package stack

import (
	"fmt"
	"math/rand/v2"
	"regexp"
	"slices"
	"strings"
	"testing"

	"etchhouse/api"
)

const someText = "material c copper 35 1\nmaterial g glue 100 3\nmaterial k core 200 0\ncopper top c\nlayer k\ncopper b c\nlayer g\nlayer g\ncopper - c\n"

// K5: a stack as a text, and back.
func TestText(t *testing.T) {
	m := []api.Material{material("c", api.MatCopper, 35, 1), material("g", api.MatGlue, 100, 3), material("k", api.MatCore, 200, 0)}
	s := layersOf("top:c k b:c g g -:c")
	text, f := Text(m, s)
	wantFault(t, "Text", f, api.OK)
	want(t, "Text", text, someText)
	m2, s2, line, f := Read(text)
	wantFault(t, "Read", f, api.OK)
	want(t, "Read", line, 0)
	want(t, "Read", m2, m)
	want(t, "Read", s2, s)
}

// K5: the longest text of all has no fault, so that Text never finds one too long.
func TestLongestText(t *testing.T) {
	long := func(i int) string { return fmt.Sprintf("%02d%s", i, strings.Repeat("x", api.MaxName-2)) }
	var m []api.Material
	for i := range api.MaxMaterials {
		m = append(m, material(long(i), api.MatCopper+min(i, 1)*2, api.MaxThick, api.MaxHot))
	}
	s := longStack(api.MaxLayers)
	for i := range s {
		s[i].Material = long(1)
		if s[i].Name != "" {
			s[i] = api.Layer{Name: long(i), Material: long(0)}
		}
	}
	text, f := Text(m, s)
	wantFault(t, "Text", f, api.OK)
	want(t, "Text", len(text), 50*len("material  copper 2000 1000\n")-49*2+50*40+30*len("copper  \n")+30*len("layer \n")+90*40)
	m2, s2, line, f := Read(text)
	wantFault(t, "Read", f, api.OK)
	want(t, "Read", line, 0)
	want(t, "Read", m2, m)
	want(t, "Read", s2, s)
}

// K5: texts at the bound, and one byte longer.
func TestLongTexts(t *testing.T) {
	named := func(bytes int) string {
		rest := " copper 35 1\ncopper a c\nlayer k\ncopper b c\n"
		return "material " + strings.Repeat("c", bytes-len("material ")-len(rest)) + rest
	}
	for _, c := range []struct {
		what, text string
		want       api.Fault
		line       int
	}{
		{"a long name", named(api.MaxStackText), api.ErrName, 0},
		{"a longer name", named(api.MaxStackText + 1), api.ErrLarge, 0},
		{"many layers", strings.Repeat("layer k\n", api.MaxStackText/8), api.ErrLarge, 0},
		{"no line", strings.Repeat("x", api.MaxStackText), api.ErrSyntax, 1},
		{"no line, but long", strings.Repeat("x", api.MaxStackText+1), api.ErrLarge, 0},
		{"many empty lines", strings.Repeat("\n", 2*api.MaxStackText), api.ErrLarge, 0},
		{"no line at the end", someText + strings.Repeat("x", api.MaxStackText-len(someText)), api.ErrSyntax, 10},
		{"no line at the end, but long", someText + strings.Repeat("x", api.MaxStackText+1-len(someText)), api.ErrLarge, 0},
	} {
		m, s, line, f := Read(c.text)
		wantFault(t, c.what, f, c.want)
		want(t, c.what, line, c.line)
		wantZero(t, c.what, m)
		wantZero(t, c.what, s)
	}
}

// K5: lines that cannot be read, with their numbers; texts of stacks that are wrong.
func TestRead(t *testing.T) {
	const materials = "material c copper 35 1\nmaterial g glue 100 3\nmaterial k core 200 0\n"
	const stack = "copper a c\nlayer k\ncopper b c\n"
	for _, c := range []struct {
		text string
		want api.Fault
		line int
	}{
		{materials + stack, api.OK, 0},
		{materials + "copper a c\nlayer g\nlayer g\ncopper + c\n", api.OK, 0},
		{"material c copper 1 0\nmaterial k core 2000 1000\n" + stack, api.OK, 0},
		{"", api.ErrForm, 0},
		{"\n", api.ErrSyntax, 1},
		{" \n", api.ErrSyntax, 1},
		{"x\n", api.ErrSyntax, 1},
		{materials, api.ErrForm, 0},
		{stack, api.ErrNone, 0},
		{materials + stack + "\n", api.ErrSyntax, 7},
		{materials + "\n" + stack, api.ErrSyntax, 4},
		{"\n" + materials + stack, api.ErrSyntax, 1},
		{materials + stack + "x", api.ErrSyntax, 7},
		{materials + strings.TrimSuffix(stack, "\n"), api.ErrSyntax, 6},
		{strings.TrimSuffix(materials, "\n"), api.ErrSyntax, 3},
		{"material", api.ErrSyntax, 1},
		{stack + materials, api.ErrSyntax, 4},
		{"layer k\nmaterial k core 200 2\n", api.ErrSyntax, 2},
		{"copper a c\nmaterial c copper 200 2\n", api.ErrSyntax, 2},
		{materials + stack + "material z glue 1 1\n", api.ErrSyntax, 7},
		{"material\n", api.ErrSyntax, 1},
		{"material c\n", api.ErrSyntax, 1},
		{"material c copper\n", api.ErrSyntax, 1},
		{"material c copper 35\n", api.ErrSyntax, 1},
		{"material c copper 35 1 1\n", api.ErrSyntax, 1},
		{"material c copper 35 1 \n", api.ErrSyntax, 1},
		{"material  c copper 35 1\n", api.ErrSyntax, 1},
		{"material c  copper 35 1\n", api.ErrSyntax, 1},
		{"material c copper  35 1\n", api.ErrSyntax, 1},
		{" material c copper 35 1\n", api.ErrSyntax, 1},
		{"material  copper 35 1\n", api.ErrSyntax, 1},
		{"material c\tcopper 35 1\n", api.ErrSyntax, 1},
		{"material c copper 35 1\r\n", api.ErrSyntax, 1},
		{"Material c copper 35 1\n", api.ErrSyntax, 1},
		{"materials c copper 35 1\n", api.ErrSyntax, 1},
		{"material c Copper 35 1\n", api.ErrSyntax, 1},
		{"material c gold 35 1\n", api.ErrSyntax, 1},
		{"material c 1 35 1\n", api.ErrSyntax, 1},
		{"material c layer 35 1\n", api.ErrSyntax, 1},
		{"material c material 35 1\n", api.ErrSyntax, 1},
		{"material c copper x 1\n", api.ErrSyntax, 1},
		{"material c copper 35 x\n", api.ErrSyntax, 1},
		{"material c copper 035 1\n", api.ErrSyntax, 1},
		{"material c copper 35 01\n", api.ErrSyntax, 1},
		{"material c copper 35 00\n", api.ErrSyntax, 1},
		{"material c copper -35 1\n", api.ErrSyntax, 1},
		{"material c copper 35 -1\n", api.ErrSyntax, 1},
		{"material c copper 35 -0\n", api.ErrSyntax, 1},
		{"material c copper +35 1\n", api.ErrSyntax, 1},
		{"material c copper 3.5 1\n", api.ErrSyntax, 1},
		{"material c copper 1000000000 1\n", api.ErrSyntax, 1},
		{"material c copper 35 1000000000\n", api.ErrSyntax, 1},
		{"material c copper 999999999 1\n", api.ErrRange, 0},
		{"material c copper 35 999999999\n", api.ErrRange, 0},
		{"material c copper 0 1\n", api.ErrRange, 0},
		{"material c copper 2001 1\n", api.ErrRange, 0},
		{"material c copper 35 1001\n", api.ErrRange, 0},
		{"material c copper 35 0\n", api.ErrForm, 0},
		{"material \x7f copper 35 1\n", api.ErrSyntax, 1},
		{"material \x1f copper 35 1\n", api.ErrSyntax, 1},
		{"material \x00 copper 35 1\n", api.ErrSyntax, 1},
		{"material \xc3\xa4 copper 35 1\n", api.ErrSyntax, 1},
		{"material ~! copper 35 1\n", api.ErrName, 0},
		{"material c/c copper 35 1\n", api.ErrName, 0},
		{"material " + strings.Repeat("c", 41) + " copper 35 1\n", api.ErrName, 0},
		{"material c copper 35 1\nmaterial c copper 35 1\n", api.ErrOrder, 0},
		{"material c copper 35 1\nmaterial b copper 0 1\n", api.ErrRange, 0},
		{materials + "copper\n", api.ErrSyntax, 4},
		{materials + "copper a\n", api.ErrSyntax, 4},
		{materials + "copper c\n", api.ErrSyntax, 4},
		{materials + "copper a c c\n", api.ErrSyntax, 4},
		{materials + "copper  c\n", api.ErrSyntax, 4},
		{materials + "copper a  c\n", api.ErrSyntax, 4},
		{materials + "copper a c \n", api.ErrSyntax, 4},
		{materials + "copper a \n", api.ErrSyntax, 4},
		{materials + "copper \xff c\n", api.ErrSyntax, 4},
		{materials + "copper a \x80\n", api.ErrSyntax, 4},
		{materials + "Copper a c\n", api.ErrSyntax, 4},
		{materials + "core a k\n", api.ErrSyntax, 4},
		{materials + "glue g\n", api.ErrSyntax, 4},
		{materials + "layer\n", api.ErrSyntax, 4},
		{materials + "layer \n", api.ErrSyntax, 4},
		{materials + "layer k \n", api.ErrSyntax, 4},
		{materials + "layer  k\n", api.ErrSyntax, 4},
		{materials + "layer k k\n", api.ErrSyntax, 4},
		{materials + "layer \x7f\n", api.ErrSyntax, 4},
		{materials + "layers k\n", api.ErrSyntax, 4},
		{materials + "copper a x\n", api.ErrNone, 0},
		{materials + "layer x\n", api.ErrNone, 0},
		{materials + "copper a c\nlayer ~\n", api.ErrNone, 0},
		{materials + "layer c\n", api.ErrName, 0},
		{materials + "copper a k\n", api.ErrName, 0},
		{materials + "copper ~ c\n", api.ErrName, 0},
		{materials + "copper a c\nlayer k\ncopper a c\n", api.ErrTwice, 0},
		{materials + "copper a c\ncopper b c\n", api.ErrOrder, 0},
		{materials + "copper a c\nlayer k\n", api.ErrForm, 0},
		{materials + stack + strings.Repeat("layer g\ncopper c c\n", 29), api.ErrLarge, 0},
		{strings.Repeat("material c copper 35 1\n", 51) + stack, api.ErrLarge, 0},
		{"material c copper 0 1\nx\n", api.ErrSyntax, 2},
		{"x\ny\n", api.ErrSyntax, 1},
		{materials + "layer x\ncopper y\nlayer\n", api.ErrSyntax, 5},
	} {
		what := fmt.Sprintf("%.80q", c.text)
		m, s, line, f := Read(c.text)
		wantFault(t, what, f, c.want)
		want(t, what, line, c.line)
		if f != api.OK {
			wantZero(t, what, m)
			wantZero(t, what, s)
			continue
		}
		text, f := Text(m, s)
		wantFault(t, what, f, api.OK)
		want(t, what, text, c.text)
	}
}

// modelLine is the number of the first line that cannot be read, or 0.
func modelLine(text string) int {
	const number, word = ` (?:0|[1-9][0-9]{0,8})`, ` [!-~]+`
	material := regexp.MustCompile(`^material` + word + ` (?:copper|core|glue)` + number + number + `\n$`)
	layer := regexp.MustCompile(`^(?:copper` + word + word + `|layer` + word + `)\n$`)
	lines := strings.SplitAfter(text, "\n")
	layers := false
	for i, line := range lines {
		switch {
		case i == len(lines)-1 && line == "":
		case layer.MatchString(line):
			layers = true
		case !material.MatchString(line) || layers:
			return i + 1
		}
	}
	return 0
}

// K5: Read of Text is the stack, and Read reads nothing else than such texts.
func TestTextAndRead(t *testing.T) {
	seen := map[api.Fault]int{}
	tried(t, 5000, func(rnd *rand.Rand) {
		m, s := randomMaterials(rnd), randomStack(rnd, 2+rnd.IntN(4))
		text, f := Text(m, s)
		wantFault(t, "Text", f, api.OK)
		m2, s2, line, f := Read(text)
		wantFault(t, text, f, api.OK)
		want(t, text, line, 0)
		want(t, text, m2, m)
		want(t, text, s2, s)
		for range 1 + rnd.IntN(2) {
			text = changed(rnd, text)
		}
		m, s, line, f = Read(text)
		want(t, fmt.Sprintf("%q", text), line, modelLine(text))
		want(t, fmt.Sprintf("%q", text), f == api.ErrSyntax, line > 0)
		seen[f]++
		if f != api.OK {
			wantZero(t, text, m)
			wantZero(t, text, s)
			return
		}
		again, f := Text(m, s)
		wantFault(t, text, f, api.OK)
		want(t, "again", again, text)
	})
	if seen[api.OK] < 200 || seen[api.ErrSyntax] < 200 || len(seen) < 6 {
		t.Errorf("faults: %v", seen)
	}
}

// changed changes a text in one place, or two of its lines for each other.
func changed(rnd *rand.Rand, text string) string {
	const bytes = " -\n019t/!~\x7f\x1f"
	at, i := rnd.IntN(len(text)+1), rnd.IntN(len(bytes))
	to := min(len(text), at+rnd.IntN(2))
	if rnd.IntN(3) > 0 {
		return text[:at] + bytes[i:i+rnd.IntN(2)] + text[to:]
	}
	lines := strings.SplitAfter(text, "\n")
	a, b := rnd.IntN(len(lines)), rnd.IntN(len(lines))
	lines[a], lines[b] = lines[b], lines[a]
	return strings.Join(slices.Clone(lines), "")
}
