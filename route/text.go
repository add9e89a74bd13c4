package route

import (
	"slices"
	"strconv"
	"strings"

	"etchhouse/api"
	"etchhouse/texts"
)

// Text writes what is routed.
func Text(r []api.Routed) (string, api.Fault) {
	if slices.ContainsFunc(r, func(one api.Routed) bool { return !canBeWritten(one) }) {
		return "", api.ErrForm
	}
	var text strings.Builder
	write := func(line string) bool {
		text.WriteString(line)
		text.WriteByte('\n')
		return text.Len() <= api.MaxRouteText
	}
	for _, one := range r {
		if !write("net " + one.Net) {
			return "", api.ErrLarge
		}
		for _, w := range one.Ways {
			if !write(wayLine(w)) {
				return "", api.ErrLarge
			}
		}
	}
	return text.String(), api.OK
}

func canBeWritten(one api.Routed) bool {
	isBad := func(c api.Cell) bool { return !isNumber(c.X) || !isNumber(c.Y) || !isNumber(c.Layer) }
	return texts.IsRow(one.Net) && !slices.ContainsFunc(one.Ways, func(w []api.Cell) bool {
		return len(w) == 0 || slices.ContainsFunc(w, isBad)
	})
}

// isNumber says whether a number can stand in a text.
func isNumber(n int) bool {
	return isWithin(n, 0, api.MaxSide)
}

func wayLine(w []api.Cell) string {
	var line strings.Builder
	line.WriteString("way")
	for _, c := range w {
		line.WriteString(" " + strconv.Itoa(c.X) + "," + strconv.Itoa(c.Y) + "," + strconv.Itoa(c.Layer))
	}
	return line.String()
}

// Read reads what is routed as Text writes it; the number is that of the line that cannot be read.
func Read(text string) ([]api.Routed, int, api.Fault) {
	if len(text) > api.MaxRouteText {
		return nil, 0, api.ErrLarge
	}
	var r []api.Routed
	line := texts.Lines(text, func(words []string) bool {
		switch {
		case words[0] == "net" && len(words) == 2:
			r = append(r, api.Routed{Net: words[1]})
			return texts.IsRow(words[1])
		case words[0] == "way" && len(words) > 1 && len(r) > 0:
			w, ok := readWay(words[1:])
			last := &r[len(r)-1]
			last.Ways = append(last.Ways, w)
			return ok
		}
		return false
	})
	if line > 0 {
		return nil, line, api.ErrSyntax
	}
	return r, 0, api.OK
}

func readWay(words []string) ([]api.Cell, bool) {
	var w []api.Cell
	for _, word := range words {
		c, ok := readCell(word)
		if !ok {
			return nil, false
		}
		w = append(w, c)
	}
	return w, true
}

func readCell(word string) (api.Cell, bool) {
	words := strings.Split(word, ",")
	if len(words) != 3 {
		return api.Cell{}, false
	}
	var n [3]int
	for i, one := range words {
		number, ok := texts.Number(one)
		if !ok || !isNumber(number) {
			return api.Cell{}, false
		}
		n[i] = number
	}
	return api.Cell{X: n[0], Y: n[1], Layer: n[2]}, true
}
