// Package texts has what the texts of several chapters are made of: words, paths, numbers and lines.
package texts

import (
	"strings"

	"etchhouse/api"
)

// IsWord says whether a text is a word (N1).
func IsWord(s string) bool {
	if len(s) < 1 || len(s) > api.MaxName {
		return false
	}
	for i := range len(s) {
		if !isWordByte(s[i]) {
			return false
		}
	}
	return true
}

func isWordByte(b byte) bool {
	switch {
	case 'A' <= b && b <= 'Z', 'a' <= b && b <= 'z', isDigit(b):
		return true
	}
	return b == '_' || b == '+' || b == '-' || b == '#'
}

func isDigit(b byte) bool {
	return '0' <= b && b <= '9'
}

// IsPath says whether a text is words with / between (N1).
func IsPath(s string) bool {
	if len(s) > api.MaxPath {
		return false
	}
	for _, word := range strings.Split(s, "/") {
		if !IsWord(word) {
			return false
		}
	}
	return true
}

// IsRow says whether a text is a row of bytes from 33 to 126, which can stand between blanks in a line.
func IsRow(s string) bool {
	for i := range len(s) {
		if s[i] < 33 || s[i] > 126 {
			return false
		}
	}
	return s != ""
}

// Number reads a number from 1 to 9 digits without a needless 0.
func Number(s string) (int, bool) {
	if len(s) < 1 || len(s) > 9 || s[0] == '0' && s != "0" {
		return 0, false
	}
	n := 0
	for i := range len(s) {
		if !isDigit(s[i]) {
			return 0, false
		}
		n = 10*n + int(s[i]-'0')
	}
	return n, true
}

// Signed reads such a number, perhaps with - ahead, but not before 0.
func Signed(s string) (int, bool) {
	digits, negative := strings.CutPrefix(s, "-")
	n, ok := Number(digits)
	if negative {
		return -n, ok && n > 0
	}
	return n, ok
}

// Numbers reads words that are all such numbers.
func Numbers(words []string) ([]int, bool) {
	var numbers []int
	for _, word := range words {
		n, ok := Signed(word)
		if !ok {
			return nil, false
		}
		numbers = append(numbers, n)
	}
	return numbers, true
}

// Lines gives what stands between the blanks of each line to a function, as long as this returns true. It returns the number (from 1 on) of the first line that is not read so, or does not end with the byte 10; 0 if there is none.
func Lines(text string, read func(words []string) bool) int {
	for number := 1; text != ""; number++ {
		line, rest, ends := strings.Cut(text, "\n")
		if !ends || !read(strings.Split(line, " ")) {
			return number
		}
		text = rest
	}
	return 0
}
