package rules

import (
	"slices"
	"strconv"
	"strings"

	"etchhouse/api"
	"etchhouse/texts"
)

// Text writes rules.
func Text(r api.RuleSet) (string, api.Fault) {
	if f := CheckRules(r); f != api.OK {
		return "", f
	}
	var text strings.Builder
	write := func(words ...string) {
		text.WriteString(strings.Join(words, " "))
		text.WriteByte('\n')
	}
	write("rules" + row(r.Clearance, r.Width, r.Ring, r.Edge, r.HoleGap))
	for _, c := range r.Classes {
		write(slices.Concat([]string{"class", c.Name + row(c.Clearance, c.Width)}, c.Nets)...)
	}
	for _, area := range r.Areas {
		numbers := []int{area.Layer, area.Clearance}
		for _, one := range area.Region {
			numbers = append(numbers, one.X0, one.Y0, one.X1, one.Y1)
		}
		write("area" + row(numbers...))
	}
	if text.Len() > api.MaxPlot {
		return "", api.ErrLarge
	}
	return text.String(), api.OK
}

// row writes numbers, each behind a blank.
func row(numbers ...int) string {
	var out strings.Builder
	for _, n := range numbers {
		out.WriteByte(' ')
		out.WriteString(strconv.Itoa(n))
	}
	return out.String()
}

// Read reads rules as Text writes them; the number is that of the line that cannot be read.
func Read(text string) (api.RuleSet, int, api.Fault) {
	if len(text) > api.MaxPlot {
		return api.RuleSet{}, 0, api.ErrLarge
	}
	if text == "" {
		return api.RuleSet{}, 1, api.ErrSyntax
	}
	var r reader
	if line := texts.Lines(text, r.line); line > 0 {
		return api.RuleSet{}, line, api.ErrSyntax
	}
	if f := CheckRules(r.rules); f != api.OK {
		return api.RuleSet{}, 0, f
	}
	return r.rules, 0, api.OK
}

// reader is what is read so far.
type reader struct {
	rules api.RuleSet
	begun bool // whether the first line is read
}

// line reads the words of a line, and says whether it can stand there.
func (r *reader) line(words []string) bool {
	first, words := words[0], words[1:]
	switch {
	case !r.begun:
		r.begun = true
		return first == "rules" && r.readFirst(words)
	case first == "class":
		return len(r.rules.Areas) == 0 && r.readClass(words)
	case first == "area":
		return r.readArea(words)
	}
	return false
}

func (r *reader) readFirst(words []string) bool {
	n, ok := texts.Numbers(words)
	if !ok || len(n) != 5 {
		return false
	}
	r.rules = api.RuleSet{Clearance: n[0], Width: n[1], Ring: n[2], Edge: n[3], HoleGap: n[4]}
	return true
}

func (r *reader) readClass(words []string) bool {
	if len(words) < 3 || !texts.IsRow(words[0]) {
		return false
	}
	n, ok := texts.Numbers(words[1:3])
	nets := words[3:]
	if !ok || slices.ContainsFunc(nets, func(net string) bool { return !texts.IsRow(net) }) {
		return false
	}
	r.rules.Classes = append(r.rules.Classes, api.NetClass{Name: words[0], Nets: nets, Clearance: n[0], Width: n[1]})
	return true
}

func (r *reader) readArea(words []string) bool {
	n, ok := texts.Numbers(words)
	if !ok || len(n)%4 != 2 {
		return false
	}
	area := api.RuleArea{Layer: n[0], Clearance: n[1]}
	for n = n[2:]; len(n) > 0; n = n[4:] {
		area.Region = append(area.Region, api.Rect{X0: n[0], Y0: n[1], X1: n[2], Y1: n[3]})
	}
	r.rules.Areas = append(r.rules.Areas, area)
	return true
}
