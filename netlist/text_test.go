package netlist

import (
	"fmt"
	"math/rand/v2"
	"regexp"
	"strings"
	"testing"

	"etchhouse/api"
)

// N9: lists as texts.
func TestText(t *testing.T) {
	for _, c := range []struct {
		what string
		x    api.Netlist
		want string
	}{
		{"empty", api.Netlist{}, ""},
		{"a part", list("a:r"), "part a r\n"},
		{"a net without pins", list(" | n"), "net n\n"},
		{"some", list("b:r a/x:gate | n a/x.y b.1 | m b.2"), "part b r\npart a/x gate\nnet n a/x.y b.1\nnet m b.2\n"},
		{"names of all bytes", list("!\"#$%&'()*+,-/0:;<=>?@[]^_`{}~ | ~ \\.!"), "part !\"#$%&'()*+,-/0 ;<=>?@[]^_`{}~\nnet ~ \\.!\n"},
		{"names that are long", list(strings.Repeat("p", 500) + ":r"), "part " + strings.Repeat("p", 500) + " r\n"},
		{"ports, which are not written", api.Netlist{Nets: []api.Net{{Name: "n", Ports: []string{"", "."}}}}, "net n\n"},
	} {
		s, f := Text(c.x)
		wantFault(t, c.what, f, api.OK)
		want(t, c.what, s, c.want)
		x, line, f := Read(s)
		wantFault(t, c.what, f, api.OK)
		want(t, c.what, line, 0)
		for i := range c.x.Nets {
			c.x.Nets[i].Ports = nil
		}
		want(t, c.what, x, c.x)
	}
}

// N9: names that a text cannot have, in each place.
func TestNamesOfText(t *testing.T) {
	places := map[string]func(x *api.Netlist, s string){
		"part":        func(x *api.Netlist, s string) { x.Parts[1].Name = s },
		"type":        func(x *api.Netlist, s string) { x.Parts[1].Type = s },
		"net":         func(x *api.Netlist, s string) { x.Nets[1].Name = s },
		"part of pin": func(x *api.Netlist, s string) { x.Nets[1].Pins[1].Part = s },
		"pin":         func(x *api.Netlist, s string) { x.Nets[1].Pins[1].Pin = s },
	}
	for what, set := range places {
		put := func(s string, expected api.Fault) {
			x := list("a:r b:r | m a.1 | n a.2 b.1")
			set(&x, s)
			text, f := Text(x)
			wantFault(t, fmt.Sprintf("%s %q", what, s), f, expected)
			if f != api.OK {
				wantZero(t, what, text)
			}
		}
		for b := range 256 {
			expected := api.ErrForm
			if b >= 33 && b <= 126 && b != '.' {
				expected = api.OK
			}
			put(string([]byte{'x', byte(b), 'x'}), expected)
			put(string([]byte{byte(b)}), expected)
		}
		put("", api.ErrForm)
	}
}

// N9: texts at the bound, and one byte longer.
func TestLongTexts(t *testing.T) {
	const before = "part a r\n"
	name := strings.Repeat("n", api.MaxListText-len(before+"net \n"))
	text := before + "net " + name + "\n"
	x, line, f := Read(text)
	wantFault(t, "Read at the bound", f, api.OK)
	want(t, "Read at the bound", []int{len(text), line, len(x.Nets), len(x.Nets[0].Name)}, []int{api.MaxListText, 0, 1, len(name)})
	s, f := Text(x)
	wantFault(t, "Text at the bound", f, api.OK)
	if s != text {
		t.Error("Text at the bound: another text")
	}
	for what, longer := range map[string]api.Netlist{
		"a longer net":    {Parts: x.Parts, Nets: []api.Net{{Name: name + "n"}}},
		"a longer part":   {Parts: []api.Part{{Name: "aa", Type: "r"}}, Nets: x.Nets},
		"a longer type":   {Parts: []api.Part{{Name: "a", Type: "rr"}}, Nets: x.Nets},
		"a pin":           {Parts: x.Parts, Nets: []api.Net{{Name: name[4:], Pins: pins("a.11")}}},
		"very long parts": {Parts: []api.Part{{Name: name, Type: name}, {Name: "a", Type: "a"}}},
	} {
		s, f = Text(longer)
		wantFault(t, what, f, api.ErrLarge)
		wantZero(t, what, s)
	}
	_, f = Text(api.Netlist{Parts: []api.Part{{Name: name, Type: name}, {Name: "a", Type: "."}}})
	wantFault(t, "ErrForm before ErrLarge", f, api.ErrForm)
	x, line, f = Read(text + "\n")
	wantFault(t, "Read too long", f, api.ErrLarge)
	want(t, "Read too long", line, 0)
	wantZero(t, "Read too long", x)
	_, line, f = Read(strings.Repeat("x", api.MaxListText+1))
	wantFault(t, "ErrLarge before ErrSyntax", f, api.ErrLarge)
	want(t, "ErrLarge before ErrSyntax", line, 0)
	many := strings.Repeat("part a r\n", 10*api.MaxParts) + strings.Repeat("net n\n", 10*api.MaxNets)
	x, _, f = Read(many)
	wantFault(t, "more than a list can have", f, api.OK)
	want(t, "more than a list can have", []int{len(x.Parts), len(x.Nets)}, []int{10 * api.MaxParts, 10 * api.MaxNets})
}

// N9: lines that cannot be read, with their numbers.
func TestRead(t *testing.T) {
	for _, c := range []struct {
		text string
		line int
	}{
		{"", 0},
		{"part a r\n", 0},
		{"part part net\nnet net part.net\n", 0},
		{"part b r\npart a r\npart a r\nnet n a.1 a.1\nnet n\n", 0},
		{"\n", 1},
		{"part a r\n\n", 2},
		{"part a r\n\nnet n\n", 2},
		{"part a r", 1},
		{"part a r\nnet n", 2},
		{"part a r\nx", 2},
		{"part a r\r\n", 1},
		{"part\n", 1},
		{"part a\n", 1},
		{"part a \n", 1},
		{"part a r \n", 1},
		{"part a r x\n", 1},
		{"part  a r\n", 1},
		{"part a  r\n", 1},
		{" part a r\n", 1},
		{"part a\tr\n", 1},
		{"Part a r\n", 1},
		{"parts a r\n", 1},
		{"part a.b r\n", 1},
		{"part a r.s\n", 1},
		{"part a\x7f r\n", 1},
		{"part \x80 r\n", 1},
		{"part a \x00\n", 1},
		{"net\n", 1},
		{"net \n", 1},
		{"net n \n", 1},
		{"net n  a.1\n", 1},
		{"net n a.1 \n", 1},
		{"net n.m\n", 1},
		{"net n a\n", 1},
		{"net n a.\n", 1},
		{"net n .1\n", 1},
		{"net n .\n", 1},
		{"net n a.1.2\n", 1},
		{"net n a..1\n", 1},
		{"net n a.1 b\n", 1},
		{"net n a.1\x7f\n", 1},
		{"net n a\x80.1\n", 1},
		{"nets n a.1\n", 1},
		{"net n a.1\npart a r\n", 2},
		{"net n\nnet m\npart a r\n", 3},
		{"part a r\nnet n\nnot\nnet.\n", 3},
	} {
		x, line, f := Read(c.text)
		expected := api.OK
		if c.line > 0 {
			expected = api.ErrSyntax
			wantZero(t, c.text, x)
		}
		wantFault(t, fmt.Sprintf("%q", c.text), f, expected)
		want(t, fmt.Sprintf("%q", c.text), line, c.line)
	}
}

// modelLine is the number of the first line that cannot be read, or 0.
func modelLine(text string) int {
	const name = `[!-\-/-~]+`
	part := regexp.MustCompile(`^part ` + name + ` ` + name + `\n$`)
	net := regexp.MustCompile(`^net ` + name + `( ` + name + `\.` + name + `)*\n$`)
	nets := false
	for i, line := range strings.SplitAfter(text, "\n") {
		switch {
		case line == "": // behind the last line
		case net.MatchString(line):
			nets = true
		case nets || !part.MatchString(line):
			return i + 1
		}
	}
	return 0
}

// N9: Read and Text belong together, and Read reads nothing else.
func TestTextAndRead(t *testing.T) {
	rnd := rand.New(rand.NewPCG(14, 1))
	seen := map[bool]int{}
	for range 5000 {
		x := randomPick(rnd)
		text, f := Text(x)
		wantFault(t, "Text", f, api.OK)
		y, line, f := Read(text)
		wantFault(t, text, f, api.OK)
		want(t, text, y, x)
		want(t, text, line, 0)
		for range 1 + rnd.IntN(2) {
			text = spoiled(rnd, text)
		}
		y, line, f = Read(text)
		want(t, fmt.Sprintf("%q", text), line, modelLine(text))
		if f != api.OK {
			wantFault(t, text, f, api.ErrSyntax)
			wantZero(t, text, y)
			seen[false]++
			continue
		}
		again, f := Text(y)
		wantFault(t, text, f, api.OK)
		want(t, "again", again, text)
		seen[true]++
	}
	if seen[true] < 500 || seen[false] < 500 {
		t.Errorf("read and not read: %v", seen)
	}
}

// spoiled changes a text in one place.
func spoiled(rnd *rand.Rand, text string) string {
	at := rnd.IntN(len(text) + 1)
	const bytes = " .\nanx1\r\t!~\x7f\x1f"
	b := string(bytes[rnd.IntN(len(bytes))])
	switch rnd.IntN(4) {
	case 0:
		return text[:at] + b + text[at:]
	case 1:
		return text[:at] + text[min(len(text), at+1):]
	case 2:
		return text[:at] + b + text[min(len(text), at+1):]
	}
	lines := strings.SplitAfter(text, "\n")
	i, k := rnd.IntN(len(lines)), rnd.IntN(len(lines))
	lines[i], lines[k] = lines[k], lines[i]
	return strings.Join(lines, "")
}
