package rules_test

import (
	"fmt"
	"math/rand/v2"
	"regexp"
	"slices"
	"strings"
	"testing"

	"etchhouse/api"
	"etchhouse/rules"
)

const someText = "rules 4 3 2 5 6\nclass fast 7 0 a b/c\nclass none 0 0\nclass wide 0 5 d\narea -1 2 0 0 10 10\narea 1 9 5 5 20 20 30 30 31 31\n"

// R5: rules as a text, a line each.
func TestText(t *testing.T) {
	for _, c := range []struct {
		r    api.RuleSet
		want string
	}{
		{api.RuleSet{}, "rules 0 0 0 0 0\n"},
		{someRules(), someText},
		{api.RuleSet{Clearance: 1, Width: 2, Ring: 3, Edge: 4, HoleGap: api.MaxRule}, "rules 1 2 3 4 100000\n"},
		{api.RuleSet{Areas: []api.RuleArea{{}, {Layer: -1, Clearance: 7}}}, "rules 0 0 0 0 0\narea 0 0\narea -1 7\n"},
		{api.RuleSet{Areas: []api.RuleArea{area(15, 0, rect(-api.MaxAt, -7, 0, api.MaxAt))}}, "rules 0 0 0 0 0\narea 15 0 -1000000 -7 0 1000000\n"},
		{api.RuleSet{Classes: []api.NetClass{class("+-_# a/b/c", 8, 9)}}, "rules 0 0 0 0 0\nclass +-_# 8 9 a/b/c\n"},
	} {
		text, f := rules.Text(c.r)
		wantGood(t, c.want, text, f, c.want)
		r, line, f := rules.Read(c.want)
		wantGood(t, c.want, r, f, c.r)
		want(t, "line", line, 0)
	}
}

// R5: Text refuses what CheckRules refuses.
func TestFaultsOfText(t *testing.T) {
	for _, b := range breaches() {
		r := breachable()
		b.do(&r)
		text, f := rules.Text(r)
		wantWrong(t, b.what, text, f, b.fault)
	}
}

// longRules have classes whose nets make the text as long as it can be, or longer.
func longRules(bytes int) api.RuleSet {
	r := api.RuleSet{}
	left := bytes - len("rules 0 0 0 0 0\n")
	line := len("class c0 0 0\n")
	for i := 0; left > 0; i++ {
		c := api.NetClass{Name: fmt.Sprint("c", i)}
		left -= line
		for k := 0; k < 400 && left > 0; k++ {
			net := fmt.Sprintf("n%d/%03d/", i, k)
			long := min(100, left-1-len(net))
			if left-1-len(net)-long < line+20 { // what is left is too short for a class
				long = left - 1 - len(net)
			}
			c.Nets = append(c.Nets, longName(net, long))
			left -= 1 + len(net) + long
		}
		r.Classes = append(r.Classes, c)
	}
	return r
}

// longName puts so many letters behind a name, in words that are not too long.
func longName(name string, letters int) string {
	out := name
	for letters > api.MaxName {
		part := min(api.MaxName, letters-2)
		out += strings.Repeat("x", part) + "/"
		letters -= part + 1
	}
	return out + strings.Repeat("x", letters)
}

// R5: texts at the bound, and one byte longer.
func TestLongTexts(t *testing.T) {
	r := longRules(api.MaxPlot)
	text, f := rules.Text(r)
	wantFault(t, "as long as can be", f, api.OK)
	want(t, "as long as can be", len(text), api.MaxPlot)
	again, line, f := rules.Read(text)
	wantGood(t, "as long as can be", again, f, r)
	want(t, "line", line, 0)
	r.Clearance = 10
	text, f = rules.Text(r)
	wantWrong(t, "one byte more", text, f, api.ErrLarge)
	r.Classes[0].Name = "?"
	text, f = rules.Text(r)
	wantWrong(t, "rules before length", text, f, api.ErrName)
	for _, c := range []struct {
		what, text string
		want       api.Fault
		line       int
	}{
		{"a long name", "rules 0 0 0 0 0\nclass " + strings.Repeat("c", api.MaxPlot-27) + " 0 0\n", api.ErrName, 0},
		{"a longer name", "rules 0 0 0 0 0\nclass " + strings.Repeat("c", api.MaxPlot-26) + " 0 0\n", api.ErrLarge, 0},
		{"no line", strings.Repeat("x", api.MaxPlot), api.ErrSyntax, 1},
		{"no line, but long", strings.Repeat("x", api.MaxPlot+1), api.ErrLarge, 0},
		{"many empty lines", strings.Repeat("\n", 9*api.MaxPlot), api.ErrLarge, 0},
		{"many areas", "rules 0 0 0 0 0\n" + strings.Repeat("area 0 0\n", 20000), api.ErrLarge, 0},
		{"many areas, no line at the end", "rules 0 0 0 0 0\n" + strings.Repeat("area 0 0\n", 20000) + "x", api.ErrSyntax, 20002},
	} {
		r, line, f := rules.Read(c.text)
		wantWrong(t, c.what, r, f, c.want)
		want(t, c.what, line, c.line)
	}
}

// R5: rules at each of their bounds are read as they were written.
func TestTextAtBounds(t *testing.T) {
	for _, r := range []api.RuleSet{
		{Classes: manyClasses(api.MaxClasses)},
		{Classes: []api.NetClass{{Name: longWord(), Nets: manyNets(api.MaxNets)}}},
		{Classes: []api.NetClass{{Name: "a", Nets: []string{longPath()}}}},
		{Areas: manyAreas(api.MaxAreas, api.MaxRects/api.MaxAreas)},
		{Clearance: api.MaxRule, Width: api.MaxRule, Ring: api.MaxRule, Edge: api.MaxRule, HoleGap: api.MaxRule},
	} {
		text, f := rules.Text(r)
		wantFault(t, "Text", f, api.OK)
		again, line, f := rules.Read(text)
		wantGood(t, text, again, f, r)
		want(t, "line", line, 0)
	}
	for _, c := range []struct {
		what string
		text string
	}{
		{"too many classes", "rules 0 0 0 0 0\n" + strings.Repeat("class a 0 0\n", api.MaxClasses+1)},
		{"too many nets", "rules 0 0 0 0 0\nclass a 0 0 " + strings.Join(manyNets(api.MaxNets+1), " ") + "\n"},
		{"too many areas", "rules 0 0 0 0 0\n" + strings.Repeat("area 0 0\n", api.MaxAreas+1)},
		{"too many rectangles", "rules 0 0 0 0 0\narea 0 0" + strings.Repeat(" 0 0 1 1", api.MaxRects+1) + "\n"},
	} {
		r, line, f := rules.Read(c.text)
		wantWrong(t, c.what, r, f, api.ErrLarge)
		want(t, c.what, line, 0)
	}
}

// readCase is a text, the fault with which it is read, and the line of this.
type readCase struct {
	text string
	want api.Fault
	line int
}

// R5: lines that cannot be read or cannot stand there, with their numbers; texts of rules that are wrong.
func TestRead(t *testing.T) {
	for _, c := range slices.Concat(textsOfLines(), textsOfClasses(), textsOfAreas()) {
		what := fmt.Sprintf("%.80q", c.text)
		r, line, f := rules.Read(c.text)
		wantFault(t, what, f, c.want)
		want(t, what, line, c.line)
		want(t, what, modelLine(c.text), c.line)
		if f != api.OK {
			wantWrong(t, what, r, f, c.want)
			continue
		}
		text, f := rules.Text(r)
		wantGood(t, what, text, f, c.text)
	}
}

func textsOfLines() []readCase {
	return []readCase{
		{someText, api.OK, 0},
		{"", api.ErrSyntax, 1},
		{"\n", api.ErrSyntax, 1},
		{" ", api.ErrSyntax, 1},
		{"rules", api.ErrSyntax, 1},
		{"rules\n", api.ErrSyntax, 1},
		{"rules 0 0 0 0 0", api.ErrSyntax, 1},
		{"rules 0 0 0 0 0\n\n", api.ErrSyntax, 2},
		{"\nrules 0 0 0 0 0\n", api.ErrSyntax, 1},
		{"rules 0 0 0 0\n", api.ErrSyntax, 1},
		{"rules 0 0 0 0 0 0\n", api.ErrSyntax, 1},
		{"rules 0 0 0 0 0 \n", api.ErrSyntax, 1},
		{" rules 0 0 0 0 0\n", api.ErrSyntax, 1},
		{"rules  0 0 0 0 0\n", api.ErrSyntax, 1},
		{"rules 0 0  0 0 0\n", api.ErrSyntax, 1},
		{"rules 0 0 0 0 0\r\n", api.ErrSyntax, 1},
		{"rules\t0 0 0 0 0\n", api.ErrSyntax, 1},
		{"Rules 0 0 0 0 0\n", api.ErrSyntax, 1},
		{"rule 0 0 0 0 0\n", api.ErrSyntax, 1},
		{"rules 0 0 0 0 x\n", api.ErrSyntax, 1},
		{"rules 00 0 0 0 0\n", api.ErrSyntax, 1},
		{"rules 01 0 0 0 0\n", api.ErrSyntax, 1},
		{"rules -0 0 0 0 0\n", api.ErrSyntax, 1},
		{"rules +1 0 0 0 0\n", api.ErrSyntax, 1},
		{"rules 1.0 0 0 0 0\n", api.ErrSyntax, 1},
		{"rules 1000000000 0 0 0 0\n", api.ErrSyntax, 1},
		{"rules 999999999 0 0 0 0\n", api.ErrRange, 0},
		{"rules 0 0 0 0 -1\n", api.ErrRange, 0},
		{"rules 0 0 0 -999999999 0\n", api.ErrRange, 0},
		{"rules 0 0 100001 0 0\n", api.ErrRange, 0},
		{"rules 0 0 0 0 0\nrules 0 0 0 0 0\n", api.ErrSyntax, 2},
		{"class a 0 0\nrules 0 0 0 0 0\n", api.ErrSyntax, 1},
		{"area 0 0\nrules 0 0 0 0 0\n", api.ErrSyntax, 1},
		{someText + "x", api.ErrSyntax, 7},
		{someText + "x\n", api.ErrSyntax, 7},
		{someText + "\n", api.ErrSyntax, 7},
		{someText + "rules 0 0 0 0 0\n", api.ErrSyntax, 7},
		{someText + "class z 0 0\n", api.ErrSyntax, 7},
		{strings.TrimSuffix(someText, "\n"), api.ErrSyntax, 6},
		{"rules -1 0 0 0 0\nx\n", api.ErrSyntax, 2},
		{"x\ny\n", api.ErrSyntax, 1},
	}
}

func textsOfClasses() []readCase {
	const first = "rules 0 0 0 0 0\n"
	return []readCase{
		{first + "class a 0 0\n", api.OK, 0},
		{first + "class a 1 2 b c/d\nclass b 0 0 c\n", api.OK, 0},
		{first + "class\n", api.ErrSyntax, 2},
		{first + "class a\n", api.ErrSyntax, 2},
		{first + "class a 0\n", api.ErrSyntax, 2},
		{first + "class a 0 0", api.ErrSyntax, 2},
		{first + "class a 0 0 \n", api.ErrSyntax, 2},
		{first + "class a 0 0 b \n", api.ErrSyntax, 2},
		{first + "class a 0 0  b\n", api.ErrSyntax, 2},
		{first + "class  a 0 0\n", api.ErrSyntax, 2},
		{first + "class  0 0\n", api.ErrSyntax, 2},
		{first + "class a 0  0\n", api.ErrSyntax, 2},
		{first + " class a 0 0\n", api.ErrSyntax, 2},
		{first + "Class a 0 0\n", api.ErrSyntax, 2},
		{first + "classes a 0 0\n", api.ErrSyntax, 2},
		{first + "class a x 0\n", api.ErrSyntax, 2},
		{first + "class a 0 x\n", api.ErrSyntax, 2},
		{first + "class a b 0 0\n", api.ErrSyntax, 2},
		{first + "class a 00 0\n", api.ErrSyntax, 2},
		{first + "class a 0 -0\n", api.ErrSyntax, 2},
		{first + "class a 0 1000000000\n", api.ErrSyntax, 2},
		{first + "class \x7f 0 0\n", api.ErrSyntax, 2},
		{first + "class a 0 0 \x1f\n", api.ErrSyntax, 2},
		{first + "class a 0 0 b \xc3\xa4\n", api.ErrSyntax, 2},
		{first + "class a 0 0 b\tc\n", api.ErrSyntax, 2},
		{first + "class ~! 0 0\n", api.ErrName, 0},
		{first + "class a/b 0 0\n", api.ErrName, 0},
		{first + "class a 0 0 ~\n", api.ErrName, 0},
		{first + "class a 0 0 b/\n", api.ErrName, 0},
		{first + "class a 0 -1\n", api.ErrRange, 0},
		{first + "class a 100001 0\n", api.ErrRange, 0},
		{first + "class a 0 0 c b\n", api.ErrOrder, 0},
		{first + "class a 0 0 b b\n", api.ErrOrder, 0},
		{first + "class b 0 0\nclass a 0 0\n", api.ErrOrder, 0},
		{first + "class a 0 0 b\nclass b 0 0 b\n", api.ErrTwice, 0},
		{first + "class a 0 0 1 2\n", api.OK, 0},
	}
}

func textsOfAreas() []readCase {
	const first = "rules 0 0 0 0 0\n"
	return []readCase{
		{first + "area 0 0\n", api.OK, 0},
		{first + "area -1 5 -9 -9 0 0\narea -1 5 -9 -9 0 0\n", api.OK, 0},
		{first + "area 0 0 0 0 1 1 2 0 3 1\n", api.OK, 0},
		{first + "area\n", api.ErrSyntax, 2},
		{first + "area 0\n", api.ErrSyntax, 2},
		{first + "area 0 0", api.ErrSyntax, 2},
		{first + "area 0 0 \n", api.ErrSyntax, 2},
		{first + "area  0 0\n", api.ErrSyntax, 2},
		{first + "area 0 0 1\n", api.ErrSyntax, 2},
		{first + "area 0 0 1 2\n", api.ErrSyntax, 2},
		{first + "area 0 0 1 2 3\n", api.ErrSyntax, 2},
		{first + "area 0 0 1 2 3 4 5\n", api.ErrSyntax, 2},
		{first + "area 0 0 0 0 1 1 2 0 3\n", api.ErrSyntax, 2},
		{first + "area 0 0 0 0 1 x\n", api.ErrSyntax, 2},
		{first + "area x 0\n", api.ErrSyntax, 2},
		{first + "area 0 x\n", api.ErrSyntax, 2},
		{first + "area 0 0 0 0 01 1\n", api.ErrSyntax, 2},
		{first + "area -0 0\n", api.ErrSyntax, 2},
		{first + "areas 0 0\n", api.ErrSyntax, 2},
		{first + "Area 0 0\n", api.ErrSyntax, 2},
		{first + "area 0 0\nclass a 0 0\n", api.ErrSyntax, 3},
		{first + "area 0 0\nrules 0 0 0 0 0\n", api.ErrSyntax, 3},
		{first + "area -2 0\n", api.ErrRange, 0},
		{first + "area 16 0\n", api.ErrRange, 0},
		{first + "area 0 -1\n", api.ErrRange, 0},
		{first + "area 0 100001\n", api.ErrRange, 0},
		{first + "area 0 0 0 0 1000001 1\n", api.ErrRange, 0},
		{first + "area 0 0 0 0 0 1\n", api.ErrZero, 0},
		{first + "area 0 0 2 0 3 1 0 0 1 1\n", api.ErrOrder, 0},
		{first + "area 0 0 0 0 1 1 1 0 2 1\n", api.ErrForm, 0},
		{first + "class b 0 0\nclass a 0 0\narea 99 0\n", api.ErrOrder, 0},
	}
}

// modelLine is the number of the first line that cannot be read, or 0.
func modelLine(text string) int {
	const number, word = ` (?:0|-?[1-9][0-9]{0,8})`, ` [!-~]+`
	first := regexp.MustCompile(`^rules(?:` + number + `){5}\n$`)
	class := regexp.MustCompile(`^class` + word + number + number + `(?:` + word + `)*\n$`)
	area := regexp.MustCompile(`^area` + number + number + `(?:` + number + number + number + number + `)*\n$`)
	lines := strings.SplitAfter(text, "\n")
	areas := false
	for i, line := range lines {
		switch {
		case i > 0 && i == len(lines)-1 && line == "":
		case i == 0 && first.MatchString(line):
		case i > 0 && class.MatchString(line) && !areas:
		case i > 0 && area.MatchString(line):
			areas = true
		default:
			return i + 1
		}
	}
	return 0
}

// R5: what follows: Read of Text is the rules; and Read reads nothing else than such texts.
func TestTextAndRead(t *testing.T) {
	seen := map[api.Fault]int{}
	tried(t, 5000, func(rnd *rand.Rand) {
		r := randomRules(rnd, 12)
		text, f := rules.Text(r)
		wantFault(t, "Text", f, api.OK)
		again, line, f := rules.Read(text)
		wantGood(t, text, again, f, r)
		want(t, text, line, 0)
		for range 1 + rnd.IntN(2) {
			text = changed(rnd, text)
		}
		r, line, f = rules.Read(text)
		what := fmt.Sprintf("%q", text)
		want(t, what, line, modelLine(text))
		want(t, what, f == api.ErrSyntax, line > 0)
		seen[f]++
		if f != api.OK {
			wantWrong(t, what, r, f, f)
			return
		}
		written, f := rules.Text(r)
		wantGood(t, what, written, f, text)
	})
	if seen[api.OK] < 200 || seen[api.ErrSyntax] < 200 || len(seen) < 6 {
		t.Errorf("faults: %v", seen)
	}
}

// changed changes a text in one place, or two of its lines for each other.
func changed(rnd *rand.Rand, text string) string {
	const bytes = " -\n019a/!~\x7f\x1f"
	at, i := rnd.IntN(len(text)+1), rnd.IntN(len(bytes))
	to := min(len(text), at+rnd.IntN(2))
	if rnd.IntN(3) > 0 {
		return text[:at] + bytes[i:i+rnd.IntN(2)] + text[to:]
	}
	lines := strings.SplitAfter(text, "\n")
	a, b := rnd.IntN(len(lines)), rnd.IntN(len(lines))
	lines[a], lines[b] = lines[b], lines[a]
	return strings.Join(lines, "")
}
