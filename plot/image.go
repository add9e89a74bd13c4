package plot

import (
	"slices"

	"etchhouse/api"
)

// picture is what is drawn so far.
type picture struct {
	bands field
	rects int
}

// draw adds a stroke or takes it away.
func (p *picture) draw(s stroke) api.Fault {
	brush := s.region()
	if len(brush) == 0 {
		return api.OK
	}
	keep := inFirstAlone
	if s.dark {
		keep = inEither
	}
	from, to, part := p.changed(brush, keep)
	p.rects += part.count() - p.bands[from:to].count()
	p.bands = slices.Replace(p.bands, from, to, part...)
	if p.rects > api.MaxRects {
		return api.ErrLarge
	}
	return api.OK
}

// changed returns the bands that are near to a field that is not empty, and what becomes of them. All others stay as they are: a plot can have as many steps as a picture has bands.
func (p *picture) changed(by field, keep keeper) (int, int, field) {
	from, to := p.bands.near(by[0].low, by[len(by)-1].high)
	return from, to, combined(p.bands[from:to], by, keep)
}

func (p *picture) drawAll(l []stroke) api.Fault {
	for _, s := range l {
		if f := p.draw(s); f != api.OK {
			return f
		}
	}
	return api.OK
}

func (p *picture) clone() picture {
	return picture{slices.Clone(p.bands), p.rects}
}

// drawn returns the image of a plot that is right.
func drawn(p api.Plot) ([]api.Rect, api.Fault) {
	var image picture
	if f := newMachine(p, image.draw).run(p.Steps); f != api.OK {
		return nil, f
	}
	return image.bands.rects(), api.OK
}

// Image returns the region that a plot draws.
func Image(p api.Plot) ([]api.Rect, api.Fault) {
	if f := CheckPlot(p); f != api.OK {
		return nil, f
	}
	return drawn(p)
}

// Same says whether two plots have the same image.
func Same(a, b api.Plot) (bool, api.Fault) {
	if f := checkBoth(a, b); f != api.OK {
		return false, f
	}
	imageA, f := drawn(a)
	if f != api.OK {
		return false, f
	}
	imageB, f := drawn(b)
	if f != api.OK {
		return false, f
	}
	return slices.Equal(imageA, imageB), api.OK
}

func checkBoth(a, b api.Plot) api.Fault {
	if f := CheckPlot(a); f != api.OK {
		return f
	}
	return CheckPlot(b)
}

// Travel returns how far the machine goes with the light off, and with it on.
func Travel(p api.Plot) (int, int, api.Fault) {
	if f := CheckPlot(p); f != api.OK {
		return 0, 0, f
	}
	var image picture
	off, on := 0, 0
	m := newMachine(p, image.draw)
	m.travel = func(from, to api.Point, lit bool) {
		far := max(from.X, to.X) - min(from.X, to.X) + max(from.Y, to.Y) - min(from.Y, to.Y)
		if lit {
			on += far
		} else {
			off += far
		}
	}
	if f := m.run(p.Steps); f != api.OK {
		return 0, 0, f
	}
	return off, on, api.OK
}
