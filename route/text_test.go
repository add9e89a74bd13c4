package route_test

import (
	"fmt"
	"math/rand/v2"
	"regexp"
	"slices"
	"strings"
	"testing"

	"etchhouse/api"
	"etchhouse/route"
)

// U6: what is routed as a text, and back.
func TestText(t *testing.T) {
	for _, l := range []struct {
		what string
		r    []api.Routed
		want string
	}{
		{"nothing", nil, ""},
		{"a net without ways", routed("a"), "net a\n"},
		{"a way", routed("a 0,1 1,1 2,1"), "net a\nway 0,1,0 1,1,0 2,1,0\n"},
		{"a way of one cell", routed("a 7,8,3"), "net a\nway 7,8,3\n"},
		{"some", routed("b/c 0,0 0,0,1 ; 10,20,7 | a | b 1,2"), "net b/c\nway 0,0,0 0,0,1\nway 10,20,7\nnet a\nnet b\nway 1,2,0\n"},
		{"the greatest numbers", routed("a 200,199,200 199,200,200"), "net a\nway 200,199,200 199,200,200\n"},
		{"cells that are no neighbours, and a net twice", routed("a 5,5 0,0 5,5 | a"), "net a\nway 5,5,0 0,0,0 5,5,0\nnet a\n"},
		{"names like words of a text", routed("net 1,1 | way 2,2 | 0,0,0"), "net net\nway 1,1,0\nnet way\nway 2,2,0\nnet 0,0,0\n"},
		{"a name of all bytes", []api.Routed{{Net: allBytes()}}, "net " + allBytes() + "\n"},
		{"a long name", []api.Routed{{Net: strings.Repeat("x", 1000)}}, "net " + strings.Repeat("x", 1000) + "\n"},
	} {
		text, f := route.Text(l.r)
		wantGood(t, l.what, text, f, l.want)
		r, line, f := route.Read(text)
		wantGood(t, l.what, r, f, l.r)
		want(t, l.what, line, 0)
	}
}

// allBytes are those that a name can have.
func allBytes() string {
	var out []byte
	for b := byte(33); b <= 126; b++ {
		out = append(out, b)
	}
	return string(out)
}

// U6: what cannot be written.
func TestFaultsOfText(t *testing.T) {
	for b := range 256 {
		for _, name := range []string{string([]byte{byte(b)}), string([]byte{'a', byte(b), 'b'})} {
			expected := api.ErrForm
			if b >= 33 && b <= 126 {
				expected = api.OK
			}
			text, f := route.Text([]api.Routed{{Net: "a"}, {Net: name}})
			wantFault(t, fmt.Sprintf("%q", name), f, expected)
			if f != api.OK {
				wantWrong(t, fmt.Sprintf("%q", name), f, expected, text)
			}
		}
	}
	for what, r := range map[string][]api.Routed{
		"no name":                 {{Net: "a"}, {}},
		"no name, but a way":      {{Ways: ways("0,0")}},
		"a way without cells":     {{Net: "a", Ways: ways("0,0 ; ; 0,0")}},
		"one way without cells":   {{Net: "a", Ways: [][]api.Cell{nil}}},
		"X below 0":               routed("a 0,0 -1,0"),
		"Y below 0":               routed("a 0,0 0,-1"),
		"a layer below 0":         routed("a 0,0 0,0,-1"),
		"too great an X":          routed("a 0,0 201,0"),
		"too great a Y":           routed("a 0,0 ; 0,0 0,201"),
		"too great a layer":       routed("a | b 0,0,201 0,0"),
		"before what is too long": {{Net: strings.Repeat("a", api.MaxRouteText)}, {}},
		"a late cell before it":   {{Net: strings.Repeat("a", api.MaxRouteText)}, {Net: "b", Ways: ways("0,0 0,0,-1")}},
	} {
		text, f := route.Text(r)
		wantWrong(t, what, f, api.ErrForm, text)
	}
}

// U6: texts at the bound, and one byte longer.
func TestLongTexts(t *testing.T) {
	cells := make([]api.Cell, (api.MaxRouteText-len("net \nway\n"))/len(" 0,0,0"))
	left := api.MaxRouteText - len("net \nway\n") - len(cells)*len(" 0,0,0")
	most := []api.Routed{{Net: strings.Repeat("n", left), Ways: [][]api.Cell{cells}}}
	if left == 0 {
		most[0].Net, most[0].Ways[0] = "nnnnnn", cells[1:]
	}
	text, f := route.Text(most)
	wantGood(t, "as long as can be", len(text), f, api.MaxRouteText)
	r, line, f := route.Read(text)
	wantGood(t, "as long as can be", line, f, 0)
	if !slices.EqualFunc(r, most, func(a, b api.Routed) bool { return a.Net == b.Net && slices.EqualFunc(a.Ways, b.Ways, slices.Equal) }) {
		t.Error("as long as can be: something else is read")
	}
	name, longCell := slices.Clone(most), [][]api.Cell{slices.Clone(most[0].Ways[0])}
	name[0].Net += "n"
	longCell[0][3].Y = 10
	for what, longer := range map[string][]api.Routed{
		"a longer name":   name,
		"a longer cell":   {{Net: most[0].Net, Ways: longCell}},
		"one more net":    append(slices.Clone(most), api.Routed{Net: "a"}),
		"one more way":    {{Net: most[0].Net, Ways: append(slices.Clone(most[0].Ways), ways("0,0")...)}},
		"a very long one": slices.Repeat(most, 3),
		"a longer net":    {{Net: strings.Repeat("n", api.MaxRouteText-4)}},
	} {
		text, f := route.Text(longer)
		wantWrong(t, what, f, api.ErrLarge, text)
	}
	for _, longer := range []string{text + "\n", text + "x", strings.Repeat("x", api.MaxRouteText+1), strings.Repeat("\n", 2*api.MaxRouteText)} {
		r, line, f = route.Read(longer)
		wantWrong(t, "one byte longer", f, api.ErrLarge, r, line)
	}
	r, line, f = route.Read(strings.Repeat("x", api.MaxRouteText))
	wantWrong(t, "no line, but not longer", f, api.ErrSyntax, r)
	want(t, "no line, but not longer", line, 1)
	r, line, f = route.Read(strings.Repeat("net a\n", 10*api.MaxTasks) + "net b\n" + strings.Repeat("way 0,0,0\n", 10*api.MaxPins))
	wantGood(t, "more than can be routed", []int{line, len(r), len(r[len(r)-1].Ways)}, f, []int{0, 10*api.MaxTasks + 1, 10 * api.MaxPins})
}

// U6: lines that cannot be read, with their numbers.
func TestRead(t *testing.T) {
	for _, l := range []struct {
		text string
		line int
	}{
		{"", 0}, {"net a\n", 0}, {"net a\nway 0,0,0\n", 0}, {"net a\nway 0,0,0\nway 200,200,200 10,100,9\nnet a\nnet ,\n", 0},
		{"\n", 1}, {" \n", 1}, {"x\n", 1}, {"x", 1}, {"net", 1}, {"net\n", 1}, {"net \n", 1}, {"net a", 1}, {"net  a\n", 1}, {" net a\n", 1}, {"net a \n", 1}, {"net a b\n", 1},
		{"Net a\n", 1}, {"nets a\n", 1}, {"net\ta\n", 1}, {"net a\r\n", 1}, {"net \x7f\n", 1}, {"net \x00\n", 1}, {"net \xff\n", 1}, {"net \xc3\xa9\n", 1}, {"neta\n", 1},
		{"way 0,0,0\n", 1}, {"way 0,0,0\nnet a\n", 1}, {"net a\nway\n", 2}, {"net a\nway \n", 2}, {"net a\nway  0,0,0\n", 2}, {"net a\nway 0,0,0 \n", 2}, {"net a\nway 0,0,0  0,0,1\n", 2},
		{"net a\n way 0,0,0\n", 2}, {"net a\nWay 0,0,0\n", 2}, {"net a\nways 0,0,0\n", 2}, {"net a\nway\t0,0,0\n", 2}, {"net a\nway 0,0,0\r\n", 2},
		{"net a\nway 0,0\n", 2}, {"net a\nway 0,0,0,0\n", 2}, {"net a\nway 0\n", 2}, {"net a\nway 0,0,\n", 2}, {"net a\nway ,0,0\n", 2}, {"net a\nway 0,,0\n", 2}, {"net a\nway ,,\n", 2}, {"net a\nway 0;0;0\n", 2},
		{"net a\nway 00,0,0\n", 2}, {"net a\nway 0,01,0\n", 2}, {"net a\nway 0,0,007\n", 2}, {"net a\nway -1,0,0\n", 2}, {"net a\nway 0,-0,0\n", 2}, {"net a\nway +1,0,0\n", 2}, {"net a\nway 1.0,0,0\n", 2}, {"net a\nway x,0,0\n", 2},
		{"net a\nway 201,0,0\n", 2}, {"net a\nway 0,201,0\n", 2}, {"net a\nway 0,0,201\n", 2}, {"net a\nway 1000,0,0\n", 2}, {"net a\nway 99999999999999999999,0,0\n", 2}, {"net a\nway 18446744073709551616,0,0\n", 2},
		{"net a\nway 0, 0,0\n", 2}, {"net a\nway 0,0,0 1,0\n", 2}, {"net a\nway 0,0,0 net\n", 2}, {"net a\nway 0,0,0", 2}, {"net a\n\n", 2}, {"net a\n\nnet b\n", 2}, {"net a\nnet b\nx", 3}, {"net a\nx\ny\n", 2},
		{"net a\nnet b\nway 0,0,0\nway 1,1,1\nway 2,2,2\nnet\n", 6}, {"net a\nway 0,0,0\nnet b\nway 0,0\nnet\n", 4},
	} {
		r, line, f := route.Read(l.text)
		want(t, fmt.Sprintf("%q", l.text), line, l.line)
		if l.line > 0 {
			wantWrong(t, fmt.Sprintf("%q", l.text), f, api.ErrSyntax, r)
			continue
		}
		again, f2 := route.Text(r)
		wantFault(t, fmt.Sprintf("%q", l.text), f, api.OK)
		wantGood(t, fmt.Sprintf("%q", l.text), again, f2, l.text)
	}
}

// U6: random texts hold against a pattern for each line; what can be read is written just so.
func TestRandomTexts(t *testing.T) {
	const number = `(0|[1-9][0-9]?|1[0-9][0-9]|200)`
	const cell = number + `,` + number + `,` + number
	net, way := regexp.MustCompile(`^net [!-~]+\n$`), regexp.MustCompile(`^way( `+cell+`)+\n$`)
	words := []string{"net", "way", "net a", "way 0,0,0", " ", " ", "\n", "\n", "\n", ",", "0", "1", "20", "200", "201", "0,0", "1,2,3", " 4,5,6", "x", "\t", "-", "net b/c\n", "way 7,8,9 1,1,1\n", "net a\nway 0,0,0"}
	good := 0
	tried(t, 20000, func(rnd *rand.Rand) {
		text := ""
		if rnd.IntN(2) == 0 {
			text = "net n\nway 10,20,3 11,20,3\nnet m\n"
		}
		for range rnd.IntN(7) {
			at := rnd.IntN(len(text) + 1)
			text = text[:at] + words[rnd.IntN(len(words))] + text[at+rnd.IntN(len(text)-at+1)*rnd.IntN(2)/2:]
		}
		if rnd.IntN(2) == 0 {
			text += "\n"
		}
		expected, nets := 0, 0
		for i, line := range strings.SplitAfter(text, "\n") {
			switch {
			case line == "": // behind the last one
			case net.MatchString(line):
				nets++
			case !way.MatchString(line) || nets == 0:
				if expected == 0 {
					expected = i + 1
				}
			}
		}
		r, line, f := route.Read(text)
		want(t, fmt.Sprintf("%q", text), line, expected)
		if expected > 0 {
			wantWrong(t, fmt.Sprintf("%q", text), f, api.ErrSyntax, r)
			return
		}
		good++
		again, f2 := route.Text(r)
		wantFault(t, fmt.Sprintf("%q", text), f, api.OK)
		wantGood(t, fmt.Sprintf("%q", text), again, f2, text)
	})
	if good < 500 {
		t.Errorf("%d texts can be read", good)
	}
}
