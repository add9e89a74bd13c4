// Package stack has stacks of layers: what they are made of, how thick they are, how they bow, and how they are pressed and drilled.
package stack

import (
	"etchhouse/api"
	"etchhouse/texts"
)

// CheckMaterials validates materials.
func CheckMaterials(m []api.Material) api.Fault {
	if len(m) > api.MaxMaterials {
		return api.ErrLarge
	}
	for i, one := range m {
		switch {
		case !texts.IsWord(one.Name):
			return api.ErrName
		case one.Kind < api.MatCopper || one.Kind > api.MatGlue:
			return api.ErrKind
		case one.Thick < 1 || one.Thick > api.MaxThick || one.Grow < 0 || one.Grow > api.MaxHot:
			return api.ErrRange
		case i > 0 && one.Name <= m[i-1].Name:
			return api.ErrOrder
		}
	}
	return api.OK
}

// CheckStack validates a stack of materials.
func CheckStack(m []api.Material, s []api.Layer) api.Fault {
	_, f := piled(m, s)
	return f
}

// pile is the layers of a stack, from the top to the bottom. Its coppers are counted from 0 on.
type pile struct {
	materials []api.Material // of each layer
	tops      []int          // depth of the top of each layer; at last the thickness of all
	coppers   []int          // layer of each copper
	names     []string       // of each copper
	numbers   map[string]int // copper of each name
}

// piled lays a stack up, if it has no fault.
func piled(m []api.Material, s []api.Layer) (*pile, api.Fault) {
	if f := CheckMaterials(m); f != api.OK {
		return nil, f
	}
	if len(s) > api.MaxLayers {
		return nil, api.ErrLarge
	}
	named := make(map[string]api.Material, len(m))
	for _, one := range m {
		named[one.Name] = one
	}
	p := &pile{tops: []int{0}, numbers: map[string]int{}}
	for _, l := range s {
		one, ok := named[l.Material]
		if !ok {
			return nil, api.ErrNone
		}
		if f := p.lay(l.Name, one); f != api.OK {
			return nil, f
		}
	}
	if !p.hasForm() {
		return nil, api.ErrForm
	}
	return p, api.OK
}

// lay puts a layer below the others, if it can lie there.
func (p *pile) lay(name string, one api.Material) api.Fault {
	copper, last := one.Kind == api.MatCopper, len(p.materials)-1
	_, twice := p.numbers[name]
	switch {
	case copper && !texts.IsWord(name) || !copper && name != "":
		return api.ErrName
	case copper && twice:
		return api.ErrTwice
	case last >= 0 && !canMeet(p.materials[last].Kind, one.Kind):
		return api.ErrOrder
	}
	if copper {
		p.numbers[name] = len(p.coppers)
		p.coppers = append(p.coppers, len(p.materials))
		p.names = append(p.names, name)
	}
	p.materials = append(p.materials, one)
	p.tops = append(p.tops, p.thickness()+one.Thick)
	return api.OK
}

// canMeet says whether layers of two kinds can lie on one another.
func canMeet(a, b int) bool {
	if a == api.MatCopper || b == api.MatCopper {
		return a != b
	}
	return a == api.MatGlue && b == api.MatGlue
}

// hasForm says whether there are two coppers or more, and the layers at both ends are such.
func (p *pile) hasForm() bool {
	last := len(p.coppers) - 1
	return last >= 1 && p.coppers[0] == 0 && p.coppers[last] == len(p.materials)-1
}

func (p *pile) thickness() int {
	return p.tops[len(p.tops)-1]
}

// top is the depth of the top of a copper.
func (p *pile) top(copper int) int {
	return p.tops[p.coppers[copper]]
}

// bottom is the depth of the bottom of a copper.
func (p *pile) bottom(copper int) int {
	return p.tops[p.coppers[copper]+1]
}
