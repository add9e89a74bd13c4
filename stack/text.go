package stack

import (
	"strconv"
	"strings"

	"etchhouse/api"
	"etchhouse/texts"
)

// Text writes a stack and its materials.
func Text(m []api.Material, s []api.Layer) (string, api.Fault) {
	if f := CheckStack(m, s); f != api.OK {
		return "", f
	}
	var text strings.Builder
	write := func(words ...string) {
		text.WriteString(strings.Join(words, " "))
		text.WriteByte('\n')
	}
	for _, one := range m {
		write("material", one.Name, kindWord(one.Kind), strconv.Itoa(one.Thick), strconv.Itoa(one.Grow))
	}
	for _, l := range s {
		if l.Name != "" {
			write("copper", l.Name, l.Material)
		} else {
			write("layer", l.Material)
		}
	}
	if text.Len() > api.MaxStackText { // no stack within the other limits has so long a text
		return "", api.ErrLarge
	}
	return text.String(), api.OK
}

// kindWord is the word for a kind of materials; there is none for what is no kind.
func kindWord(kind int) string {
	switch kind {
	case api.MatCopper:
		return "copper"
	case api.MatCore:
		return "core"
	case api.MatGlue:
		return "glue"
	}
	return ""
}

// Read reads a stack and its materials as Text writes them; the number is that of the line that cannot be read.
func Read(text string) ([]api.Material, []api.Layer, int, api.Fault) {
	if len(text) > api.MaxStackText {
		return nil, nil, 0, api.ErrLarge
	}
	var r reader
	if line := texts.Lines(text, r.line); line > 0 {
		return nil, nil, line, api.ErrSyntax
	}
	if f := CheckStack(r.materials, r.layers); f != api.OK {
		return nil, nil, 0, f
	}
	return r.materials, r.layers, 0, api.OK
}

// reader is what is read so far.
type reader struct {
	materials []api.Material
	layers    []api.Layer
}

// line reads the words of a line, and says whether it can stand there.
func (r *reader) line(words []string) bool {
	for _, word := range words {
		if !texts.IsRow(word) {
			return false
		}
	}
	switch {
	case words[0] == "material" && len(words) == 5 && len(r.layers) == 0:
		return r.material(words[1:])
	case words[0] == "copper" && len(words) == 3:
		r.layers = append(r.layers, api.Layer{Name: words[1], Material: words[2]})
		return true
	case words[0] == "layer" && len(words) == 2:
		r.layers = append(r.layers, api.Layer{Material: words[1]})
		return true
	}
	return false
}

func (r *reader) material(words []string) bool {
	kind, isKind := kindOf(words[1])
	thick, isThick := texts.Number(words[2])
	grow, isGrow := texts.Number(words[3])
	r.materials = append(r.materials, api.Material{Name: words[0], Kind: kind, Thick: thick, Grow: grow})
	return isKind && isThick && isGrow
}

func kindOf(word string) (int, bool) {
	for kind := api.MatCopper; kind <= api.MatGlue; kind++ {
		if word == kindWord(kind) {
			return kind, true
		}
	}
	return 0, false
}
