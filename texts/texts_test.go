package texts

import (
	"fmt"
	"math/rand/v2"
	"regexp"
	"slices"
	"strconv"
	"strings"
	"testing"

	"etchhouse/api"
)

const wordBytes = "ABCDEFGHIJKLMNOPQRSTUVWXYZabcdefghijklmnopqrstuvwxyz0123456789_+-#"

func want(t *testing.T, what string, got, want any) {
	t.Helper()
	if g, w := fmt.Sprintf("%+v", got), fmt.Sprintf("%+v", want); g != w {
		t.Errorf("%s: got %s, want %s", what, g, w)
	}
}

// Each byte, alone and behind another one.
func TestBytes(t *testing.T) {
	for b := range 256 {
		one := string([]byte{byte(b)})
		isWord := strings.Contains(wordBytes, one)
		want(t, fmt.Sprintf("word %q", one), IsWord(one), isWord)
		want(t, fmt.Sprintf("word %q", "a"+one+"b"), IsWord("a"+one+"b"), isWord)
		want(t, fmt.Sprintf("path %q", one), IsPath(one), isWord)
		want(t, fmt.Sprintf("path %q", "a"+one+"b"), IsPath("a"+one+"b"), isWord || one == "/")
		want(t, fmt.Sprintf("row %q", one), IsRow(one), b > 32 && b < 127)
		want(t, fmt.Sprintf("row %q", "."+one), IsRow("."+one), b > 32 && b < 127)
	}
}

func TestBounds(t *testing.T) {
	x := func(n int) string { return strings.Repeat("x", n) }
	longest := x(api.MaxName)
	want(t, "no word", IsWord(""), false)
	want(t, "the longest word", IsWord(longest), true)
	want(t, "too long a word", IsWord(longest+"x"), false)
	want(t, "no row", IsRow(""), false)
	want(t, "a long row", IsRow(x(1000)), true)
	path := longest
	for len(path)+1+api.MaxName <= api.MaxPath {
		path += "/" + longest
	}
	left := api.MaxPath - len(path) - 1
	want(t, "the longest path", IsPath(path+"/"+x(left)), true)
	want(t, "too long a path", IsPath(path+"/"+x(left+1)), false)
	for _, s := range []string{"", "/", "/a", "a/", "a//b", "a/" + longest + "x", "a/b."} {
		want(t, "path "+s, IsPath(s), false)
	}
}

// Numbers, and numbers with - ahead.
func TestNumbers(t *testing.T) {
	for _, c := range []struct {
		text       string
		n          int
		ok, signed bool
	}{
		{"0", 0, true, true}, {"7", 7, true, true}, {"10", 10, true, true}, {"999999999", 999999999, true, true},
		{"-1", -1, false, true}, {"-90", -90, false, true}, {"-999999999", -999999999, false, true},
		{text: ""}, {text: "-"}, {text: "-0"}, {text: "--1"}, {text: "+1"}, {text: "00"}, {text: "01"}, {text: "-01"}, {text: "1-"},
		{text: "1000000000"}, {text: "-1000000000"}, {text: "000000001"}, {text: "99999999999999999999"}, {text: "0x1"}, {text: "1_0"}, {text: " 1"}, {text: "1 "},
		{text: "1.0"}, {text: "\xd9\xa1"}, {text: "/"}, {text: ":"},
	} {
		n, ok := Signed(c.text)
		want(t, "signed "+c.text, ok, c.signed)
		want(t, "signed "+c.text, n, c.n)
		n, ok = Number(c.text)
		want(t, "number "+c.text, ok, c.ok)
		if !c.ok {
			c.n = 0
		}
		want(t, "number "+c.text, n, c.n)
	}
}

// Numbers hold against what a pattern lets in.
func TestRandomNumbers(t *testing.T) {
	const bytes = "000112345678999-+ x"
	plain, signed := regexp.MustCompile(`^(0|[1-9][0-9]{0,8})$`), regexp.MustCompile(`^(0|-?[1-9][0-9]{0,8})$`)
	rnd := rand.New(rand.NewPCG(2, 7))
	for range 20000 {
		var s string
		for range rnd.IntN(12) {
			i := rnd.IntN(len(bytes))
			s += bytes[i : i+1]
		}
		hold := func(n int, ok, fits bool) {
			exact := 0
			if fits {
				exact, _ = strconv.Atoi(s)
			}
			want(t, s, ok, fits)
			want(t, s, n, exact)
		}
		n, ok := Number(s)
		hold(n, ok, plain.MatchString(s))
		n, ok = Signed(s)
		hold(n, ok, signed.MatchString(s))
	}
}

// Words that are all numbers.
func TestRowsOfNumbers(t *testing.T) {
	for _, c := range []struct {
		text string
		want []int
		ok   bool
	}{
		{"", nil, true}, {"7", []int{7}, true}, {"0 -1 999999999", []int{0, -1, 999999999}, true},
		{"x", nil, false}, {"1 x", nil, false}, {"-0 1", nil, false}, {"1 01 2", nil, false},
	} {
		n, ok := Numbers(strings.Fields(c.text))
		want(t, c.text, ok, c.ok)
		want(t, c.text, n, c.want)
	}
	n, ok := Numbers([]string{"1", ""})
	want(t, "an empty word", ok, false)
	want(t, "an empty word", n, []int{})
}

func TestLines(t *testing.T) {
	for _, c := range []struct {
		text  string
		lines int // that are read
		want  int
	}{
		{"", 0, 0}, {"a\n", 1, 0}, {"a b\n\nc\n", 3, 0}, {"\n", 1, 0},
		{"a", 0, 1}, {"a\nb", 1, 2}, {"a\nstop\nb\n", 2, 2}, {"stop\n", 1, 1}, {"stop", 0, 1}, {"a\n\nstop", 2, 3},
	} {
		var read []string
		n := Lines(c.text, func(words []string) bool {
			read = append(read, strings.Join(words, " "))
			return words[0] != "stop"
		})
		want(t, c.text, n, c.want)
		want(t, c.text, len(read), c.lines)
		want(t, c.text, strings.HasPrefix(c.text, strings.Join(read, "\n")), true)
	}
	Lines(" a  b \n", func(words []string) bool {
		want(t, "words", slices.Equal(words, []string{"", "a", "", "b", ""}), true)
		return true
	})
}
