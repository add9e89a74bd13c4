package netlist

import (
	"strings"

	"etchhouse/api"
	"etchhouse/texts"
)

// isPlain says whether a text can stand as a name in the text of a list.
func isPlain(s string) bool {
	return texts.IsRow(s) && !strings.Contains(s, ".")
}

// Text writes a list.
func Text(x api.Netlist) (string, api.Fault) {
	if !allPlain(x) {
		return "", api.ErrForm
	}
	var text strings.Builder
	write := func(l ...string) bool {
		for _, s := range l {
			text.WriteString(s)
		}
		return text.Len() <= api.MaxListText
	}
	for _, p := range x.Parts {
		if !write("part ", p.Name, " ", p.Type, "\n") {
			return "", api.ErrLarge
		}
	}
	for _, n := range x.Nets {
		write("net ", n.Name)
		for _, p := range n.Pins {
			write(" ", p.Part, ".", p.Pin)
		}
		if !write("\n") {
			return "", api.ErrLarge
		}
	}
	return text.String(), api.OK
}

func allPlain(x api.Netlist) bool {
	for _, p := range x.Parts {
		if !isPlain(p.Name) || !isPlain(p.Type) {
			return false
		}
	}
	for _, n := range x.Nets {
		if !isPlain(n.Name) {
			return false
		}
		for _, p := range n.Pins {
			if !isPlain(p.Part) || !isPlain(p.Pin) {
				return false
			}
		}
	}
	return true
}

// Read reads a list as Text writes it; the number is that of the line that cannot be read.
func Read(text string) (api.Netlist, int, api.Fault) {
	if len(text) > api.MaxListText {
		return api.Netlist{}, 0, api.ErrLarge
	}
	var x api.Netlist
	line := texts.Lines(text, func(words []string) bool { return readLine(&x, words) })
	if line > 0 {
		return api.Netlist{}, line, api.ErrSyntax
	}
	return x, 0, api.OK
}

// readLine puts what a line says behind what is read, and says whether it can stand there.
func readLine(x *api.Netlist, words []string) bool {
	switch {
	case words[0] == "part" && len(words) == 3 && len(x.Nets) == 0:
		x.Parts = append(x.Parts, api.Part{Name: words[1], Type: words[2]})
		return isPlain(words[1]) && isPlain(words[2])
	case words[0] == "net" && len(words) >= 2:
		pins, ok := readPins(words[2:])
		x.Nets = append(x.Nets, api.Net{Name: words[1], Pins: pins})
		return ok && isPlain(words[1])
	}
	return false
}

func readPins(words []string) ([]api.Pin, bool) {
	var pins []api.Pin
	for _, word := range words {
		part, pin, ok := strings.Cut(word, ".")
		if !ok || !isPlain(part) || !isPlain(pin) {
			return nil, false
		}
		pins = append(pins, api.Pin{Part: part, Pin: pin})
	}
	return pins, true
}
