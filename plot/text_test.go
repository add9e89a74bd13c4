package plot

import (
	"fmt"
	"math/rand/v2"
	"regexp"
	"strings"
	"testing"

	"etchhouse/api"
)

// P3: plots as texts.
func TestText(t *testing.T) {
	for _, c := range []struct {
		what string
		plot api.Plot
		want string
	}{
		{"nothing", api.Plot{Unit: 1000}, "unit 1000"},
		{"tools", api.Plot{Unit: 7, Tools: []api.PlotTool{tool("A-1_", rect(-3, -2, -1, 0)), tool("b", rect(0, 0, 10, 20), rect(5, 5, 6, 99))}}, "unit 7; tool A-1_ -3 -2 -1 0; tool b 0 0 10 20 5 5 6 99"},
		{"steps", onlySteps(dark(), clears(), use("t"), move(-1, 2), flash(0, 0), line(3, -1000000), block(-1, -2, 3, 4)), "unit 1; tool t 0 0 1 1; dark; clear; use t; move -1 2; flash 0 0; line 3 -1000000; area -1 -2 3 -2 3 4 -1 4"},
		{"repeats", onlySteps(repeat(1, 2, -3, 4, dark(), repeat(100, 3, 0, 0, clears()), dark()), dark()), "unit 1; tool t 0 0 1 1; repeat 1 2 -3 4; dark; repeat 100 3 0 0; clear; done; dark; done; dark"},
		{"repeats within one another", onlySteps(nested(3, dark())...), "unit 1; tool t 0 0 1 1; repeat 1 1 0 0; repeat 1 1 0 0; repeat 1 1 0 0; dark; done; done; done"},
	} {
		s, f := Text(c.plot)
		wantFault(t, c.what, f, api.OK)
		want(t, c.what, s, text(c.want))
		p, line, f := Read(s)
		wantFault(t, c.what, f, api.OK)
		want(t, c.what, line, 0)
		want(t, c.what, p, c.plot)
	}
}

// atLength is a plot whose text has so many bytes.
func atLength(bytes int) api.Plot {
	p := api.Plot{Unit: 1}
	left := bytes - len("unit 1\n")
	for i := 0; left > 0; i++ {
		left -= len("tool t000\n")
		name := fmt.Sprintf("t%03d", i)
		many := min(left/len(" 0 0 1 1"), api.MaxRects)
		left -= many * len(" 0 0 1 1")
		if many < api.MaxRects {
			name += strings.Repeat("x", left)
			left = 0
		}
		one := tool(name)
		for range many {
			one.Rects = append(one.Rects, rect(0, 0, 1, 1))
		}
		p.Tools = append(p.Tools, one)
	}
	return p
}

// P3: texts at the bound, and one byte longer.
func TestLongTexts(t *testing.T) {
	p := atLength(api.MaxPlot)
	s, f := Text(p)
	wantFault(t, "Text at the bound", f, api.OK)
	want(t, "Text at the bound", len(s), api.MaxPlot)
	q, line, f := Read(s)
	wantFault(t, "Read at the bound", f, api.OK)
	want(t, "Read at the bound", line, 0)
	want(t, "Read at the bound", q, p)

	p = atLength(api.MaxPlot + 1)
	wantFault(t, "a plot that is longer", CheckPlot(p), api.OK)
	s, f = Text(p)
	wantFault(t, "a longer Text", f, api.ErrLarge)
	wantZero(t, "a longer Text", s)
	s = text(textOf(p))
	want(t, "a longer Read", len(s), api.MaxPlot+1)
	for _, long := range []string{s, strings.Repeat("x", api.MaxPlot+1), strings.Repeat("\n", 2*api.MaxPlot)} {
		q, line, f = Read(long)
		wantFault(t, "a longer Read", f, api.ErrLarge)
		want(t, "a longer Read", line, 0)
		wantZero(t, "a longer Read", q)
	}
	_, f = Text(atLength(2 * api.MaxPlot))
	wantFault(t, "a much longer Text", f, api.ErrLarge)
	p = atLength(api.MaxPlot + 1)
	p.Steps = []api.PlotStep{use("x")}
	_, f = Text(p)
	wantFault(t, "CheckPlot's before ErrLarge", f, api.ErrName)
	_, line, f = Read(strings.Repeat("x", api.MaxPlot))
	wantFault(t, "no longer", f, api.ErrSyntax)
	want(t, "no longer", line, 1)
}

// P3: lines that cannot be read, with their numbers; texts of plots that are wrong.
func TestRead(t *testing.T) {
	const tools = "unit 1\ntool t 0 0 1 1\n"
	for _, c := range []struct {
		text string
		want api.Fault
		line int
	}{
		{"unit 1\n", api.OK, 0},
		{"unit 1\ndark\nclear\n", api.OK, 0},
		{"", api.ErrSyntax, 1},
		{"\n", api.ErrSyntax, 1},
		{"unit 1", api.ErrSyntax, 1},
		{"unit\n", api.ErrSyntax, 1},
		{"unit \n", api.ErrSyntax, 1},
		{"unit 1 \n", api.ErrSyntax, 1},
		{"unit 1 1\n", api.ErrSyntax, 1},
		{"unit  1\n", api.ErrSyntax, 1},
		{" unit 1\n", api.ErrSyntax, 1},
		{"unit\t1\n", api.ErrSyntax, 1},
		{"Unit 1\n", api.ErrSyntax, 1},
		{"units 1\n", api.ErrSyntax, 1},
		{"unit 1\r\n", api.ErrSyntax, 1},
		{"unit x\n", api.ErrSyntax, 1},
		{"unit +1\n", api.ErrSyntax, 1},
		{"unit 01\n", api.ErrSyntax, 1},
		{"unit 00\n", api.ErrSyntax, 1},
		{"unit -0\n", api.ErrSyntax, 1},
		{"unit -01\n", api.ErrSyntax, 1},
		{"unit --1\n", api.ErrSyntax, 1},
		{"unit -\n", api.ErrSyntax, 1},
		{"unit 1-\n", api.ErrSyntax, 1},
		{"unit 1_0\n", api.ErrSyntax, 1},
		{"unit 0x1\n", api.ErrSyntax, 1},
		{"unit \xd9\xa1\n", api.ErrSyntax, 1},
		{"unit 1000000000\n", api.ErrSyntax, 1},
		{"unit -1000000000\n", api.ErrSyntax, 1},
		{"unit 18446744073709551617\n", api.ErrSyntax, 1},
		{"unit 999999999\n", api.ErrRange, 0},
		{"unit -999999999\n", api.ErrRange, 0},
		{"unit 0\n", api.ErrRange, 0},
		{"unit 1001\n", api.ErrRange, 0},
		{"dark\nunit 1\n", api.ErrSyntax, 1},
		{"tool t 0 0 1 1\nunit 1\n", api.ErrSyntax, 1},
		{"done\n", api.ErrSyntax, 1},
		{"unit 1\nunit 1\n", api.ErrSyntax, 2},
		{"unit 1\n\n", api.ErrSyntax, 2},
		{"unit 1\n\ndark\n", api.ErrSyntax, 2},
		{"unit 1\ndark", api.ErrSyntax, 2},
		{"unit 1\nx", api.ErrSyntax, 2},
		{"unit 1\ntool\n", api.ErrSyntax, 2},
		{"unit 1\ntool t\n", api.ErrSyntax, 2},
		{"unit 1\ntool t \n", api.ErrSyntax, 2},
		{"unit 1\ntool  0 0 1 1\n", api.ErrSyntax, 2},
		{"unit 1\ntool t 0 0 1\n", api.ErrSyntax, 2},
		{"unit 1\ntool t 0 0 1 1 0\n", api.ErrSyntax, 2},
		{"unit 1\ntool t 0 0 1 1 0 0 1\n", api.ErrSyntax, 2},
		{"unit 1\ntool t 0 0 1 x\n", api.ErrSyntax, 2},
		{"unit 1\ntool t 0 0 1 1 \n", api.ErrSyntax, 2},
		{"unit 1\ntool t 0 0 1 1000000000\n", api.ErrSyntax, 2},
		{"unit 1\ntool t\x7f 0 0 1 1\n", api.ErrSyntax, 2},
		{"unit 1\ntool \xc3\xa4 0 0 1 1\n", api.ErrSyntax, 2},
		{"unit 1\ntool \x00 0 0 1 1\n", api.ErrSyntax, 2},
		{"unit 1\ntool ~!\" 0 0 1 1\n", api.ErrName, 0},
		{"unit 1\ntool 0 0 1 1\n", api.ErrSyntax, 2},
		{"unit 1\ntool 0 0 0 1 1\n", api.ErrName, 0},
		{"unit 1\ntool t 0 0 1 999999999\n", api.ErrRange, 0},
		{"unit 1\ntool t 0 0 0 1\n", api.ErrZero, 0},
		{tools + "tool t 0 0 1 1\n", api.ErrOrder, 0},
		{tools + "dark\ntool u 0 0 1 1\n", api.ErrSyntax, 4},
		{tools + "repeat 1 1 0 0\ntool u 0 0 1 1\ndone\n", api.ErrSyntax, 4},
		{tools + "repeat 1 1 0 0\ndark\ndone\ntool u 0 0 1 1\n", api.ErrSyntax, 6},
		{tools + "dark\nunit 1\n", api.ErrSyntax, 4},
		{tools + "dark \n", api.ErrSyntax, 3},
		{tools + "dark x\n", api.ErrSyntax, 3},
		{tools + "clear 0\n", api.ErrSyntax, 3},
		{tools + "Clear\n", api.ErrSyntax, 3},
		{tools + "use\n", api.ErrSyntax, 3},
		{tools + "use \n", api.ErrSyntax, 3},
		{tools + "use t t\n", api.ErrSyntax, 3},
		{tools + "use  t\n", api.ErrSyntax, 3},
		{tools + "use t \n", api.ErrSyntax, 3},
		{tools + "use \x80\n", api.ErrSyntax, 3},
		{tools + "use \x1f\n", api.ErrSyntax, 3},
		{tools + "use t\n", api.OK, 0},
		{tools + "use u\n", api.ErrName, 0},
		{tools + "use ~\n", api.ErrName, 0},
		{tools + "move\n", api.ErrSyntax, 3},
		{tools + "move 1\n", api.ErrSyntax, 3},
		{tools + "move 1 2 3\n", api.ErrSyntax, 3},
		{tools + "move 1 2 3 4\n", api.ErrSyntax, 3},
		{tools + "move 1 -0\n", api.ErrSyntax, 3},
		{tools + "move 1 x\n", api.ErrSyntax, 3},
		{tools + "move 1  2\n", api.ErrSyntax, 3},
		{tools + "move -1 0\n", api.OK, 0},
		{tools + "move 0 1000001\n", api.ErrRange, 0},
		{tools + "flash\n", api.ErrSyntax, 3},
		{tools + "flash 1\n", api.ErrSyntax, 3},
		{tools + "flash 1 2 \n", api.ErrSyntax, 3},
		{tools + "line 1\n", api.ErrSyntax, 3},
		{tools + "line 1 2 3\n", api.ErrSyntax, 3},
		{tools + "lines 1 2\n", api.ErrSyntax, 3},
		{tools + "area 1\n", api.ErrSyntax, 3},
		{tools + "area 0 0 1 0 1 1 0\n", api.ErrSyntax, 3},
		{tools + "area 0 0 1 0 1 1 0 \n", api.ErrSyntax, 3},
		{tools + "area 0 0 1 0 1 1 0 1 \n", api.ErrSyntax, 3},
		{tools + "area \n", api.ErrSyntax, 3},
		{tools + "area\n", api.ErrForm, 0},
		{tools + "area 0 0\n", api.ErrForm, 0},
		{tools + "area 0 0 1 0 1 1 0 1\n", api.OK, 0},
		{tools + "repeat 1 1 0\ndark\ndone\n", api.ErrSyntax, 3},
		{tools + "repeat 1 1 0 0 0\ndark\ndone\n", api.ErrSyntax, 3},
		{tools + "repeat\ndark\ndone\n", api.ErrSyntax, 3},
		{tools + "repeat 1 1 0 a\ndark\ndone\n", api.ErrSyntax, 3},
		{tools + "repeat 1 1 0 0\n", api.ErrSyntax, 4},
		{tools + "repeat 1 1 0 0\ndark\n", api.ErrSyntax, 5},
		{tools + "repeat 1 1 0 0\ndark", api.ErrSyntax, 4},
		{tools + "repeat 1 1 0 0\nrepeat 1 1 0 0\ndark\ndone\n", api.ErrSyntax, 7},
		{tools + "repeat 1 1 0 0\ndark\ndone\ndone\n", api.ErrSyntax, 6},
		{tools + "done\n", api.ErrSyntax, 3},
		{tools + "repeat 1 1 0 0\ndark\ndone \n", api.ErrSyntax, 5},
		{tools + "repeat 1 1 0 0\ndark\ndone x\n", api.ErrSyntax, 5},
		{tools + "repeat 1 1 0 0\ndark\ndone", api.ErrSyntax, 5},
		{tools + "repeat 1 1 0 0\ndone\n", api.ErrNone, 0},
		{tools + "repeat 0 1 0 0\ndark\ndone\n", api.ErrRange, 0},
		{tools + "repeat 1 101 0 0\ndark\ndone\n", api.ErrRange, 0},
		{tools + strings.Repeat("repeat 1 1 0 0\n", 6) + "dark\n" + strings.Repeat("done\n", 6), api.ErrLarge, 0},
		{tools + strings.Repeat("repeat 1 1 0 0\n", 5) + "dark\n" + strings.Repeat("done\n", 5), api.OK, 0},
		{tools + strings.Repeat("repeat 1 1 0 0\n", 9000) + "dark\n" + strings.Repeat("done\n", 9000), api.ErrLarge, 0},
		{tools + strings.Repeat("dark\n", 3001), api.ErrLarge, 0},
		{tools + "use u\nx\n", api.ErrSyntax, 4},
		{tools + "x\ny\n", api.ErrSyntax, 3},
	} {
		what := fmt.Sprintf("%.80q", c.text)
		p, line, f := Read(c.text)
		wantFault(t, what, f, c.want)
		want(t, what, line, c.line)
		if f != api.OK {
			wantZero(t, what, p)
			continue
		}
		s, f := Text(p)
		wantFault(t, what, f, api.OK)
		want(t, what, s, c.text)
	}
}

// modelLine is the number of the first line that cannot be read, or 0.
func modelLine(text string) int {
	const number = `(?: (?:0|-?[1-9][0-9]{0,8}))`
	const word = ` [!-~]+`
	of := func(pattern string) *regexp.Regexp { return regexp.MustCompile(`^` + pattern + `\n$`) }
	unit, tool, begin, end := of(`unit`+number), of(`tool`+word+`(?:`+number+`{4})+`), of(`repeat`+number+`{4}`), of(`done`)
	step := of(`(?:dark|clear|use` + word + `|(?:move|flash|line)` + number + `{2}|area(?:` + number + `{2})*)`)
	steps, open := false, 0
	lines := strings.SplitAfter(text, "\n")
	for i, line := range lines {
		switch {
		case i == 0:
			if !unit.MatchString(line) {
				return 1
			}
		case i == len(lines)-1 && line == "":
			if open > 0 {
				return i + 1
			}
		case tool.MatchString(line) && !steps:
		case step.MatchString(line):
			steps = true
		case begin.MatchString(line):
			steps = true
			open++
		case end.MatchString(line) && open > 0:
			open--
		default:
			return i + 1
		}
	}
	return 0
}

// P3: Read of Text is the plot, and Read reads nothing else than such texts.
func TestTextAndRead(t *testing.T) {
	seen := map[api.Fault]int{}
	tried(t, 2000, func(rnd *rand.Rand) {
		p := randomPlot(rnd)
		s, f := Text(p)
		wantFault(t, "Text", f, api.OK)
		want(t, "Text", s, text(textOf(p)))
		q, line, f := Read(s)
		wantFault(t, s, f, api.OK)
		want(t, s, line, 0)
		want(t, s, q, p)
		for range 1 + rnd.IntN(2) {
			s = spoiled(rnd, s)
		}
		q, line, f = Read(s)
		want(t, fmt.Sprintf("%q", s), line, modelLine(s))
		want(t, fmt.Sprintf("%q", s), f == api.ErrSyntax, line > 0)
		seen[f]++
		if f != api.OK {
			wantZero(t, s, q)
			return
		}
		again, f := Text(q)
		wantFault(t, s, f, api.OK)
		want(t, "again", again, s)
	})
	if seen[api.OK] < 200 || seen[api.ErrSyntax] < 200 || len(seen) < 5 {
		t.Errorf("faults: %v", seen)
	}
}

// spoiled changes a text in one place.
func spoiled(rnd *rand.Rand, text string) string {
	at := rnd.IntN(len(text) + 1)
	const bytes = " -\n01t\t!~\x7f\x1f"
	b := string(bytes[rnd.IntN(len(bytes))])
	switch rnd.IntN(5) {
	case 0:
		return text[:at] + b + text[at:]
	case 1:
		return text[:at] + text[min(len(text), at+1):]
	case 2:
		return text[:at] + b + text[min(len(text), at+1):]
	}
	lines := strings.SplitAfter(text, "\n")
	i, k := rnd.IntN(len(lines)), rnd.IntN(len(lines))
	lines[i], lines[k] = lines[k], lines[i]
	return strings.Join(lines, "")
}
