package plot

import "etchhouse/api"

// record is how a plot without faults is done: how the machine stands before each of its outermost steps, and what is drawn.
type record struct {
	steps   []api.PlotStep
	machine *machine
	before  []state
	strokes []stroke
	first   []int // stroke of each step; at last how many there are
}

func recorded(p api.Plot) *record {
	r := &record{steps: p.Steps, machine: newMachine(p, nil)}
	for i := range p.Steps {
		r.before = append(r.before, r.machine.now)
		r.first = append(r.first, len(r.strokes))
		l, _ := r.strokesOf(i)
		r.strokes = append(r.strokes, l...)
	}
	r.first = append(r.first, len(r.strokes))
	return r
}

// strokesOf does a step from how the machine stands now.
func (r *record) strokesOf(step int) ([]stroke, api.Fault) {
	var l []stroke
	r.machine.draw = func(s stroke) api.Fault {
		l = append(l, s)
		return api.OK
	}
	f := r.machine.run(r.steps[step : step+1])
	return l, f
}

// doubt is a step without which the image would be the same at last, if it did not have too many rectangles on the way: behind the strokes from one on, up to another one, something differs.
type doubt struct {
	step     int
	from, to int
	differs  field
	isLarge  bool
}

// Needless returns the numbers of the steps that draw something, without any one of which the image would be the same.
//
// To draw the rest of the plot without each step would take too long. It is enough to follow what differs: where a stroke draws, nothing does any more.
func Needless(p api.Plot) ([]int, api.Fault) {
	if f := CheckPlot(p); f != api.OK {
		return nil, f
	}
	if _, f := drawn(p); f != api.OK {
		return nil, f
	}
	r := recorded(p)
	doubts := r.doubts()
	r.settle(doubts)
	var out []int
	for _, d := range doubts {
		if !d.isLarge {
			out = append(out, d.step)
		}
	}
	return out, api.OK
}

func (r *record) doubts() []doubt {
	var image picture
	var out []doubt
	for i := range r.steps {
		l := r.strokes[r.first[i]:r.first[i+1]]
		if len(l) > 0 {
			if d, ok := r.doubtOf(i, image); ok {
				out = append(out, d)
			}
		}
		image.drawAll(l)
	}
	return out
}

// doubtOf returns false if the image is another one without a step; before is the picture before it.
func (r *record) doubtOf(step int, before picture) (doubt, bool) {
	instead, next, f := r.without(step)
	if f != api.OK {
		return doubt{}, false
	}
	with, without := before.clone(), before.clone()
	with.drawAll(r.strokes[r.first[step]:r.first[next]])
	if without.drawAll(instead) != api.OK {
		return doubt{}, false
	}
	d := doubt{step: step, from: r.first[next], differs: combined(with.bands, without.bands, inOneAlone)}
	n, ok := healed(d.differs, r.strokes[d.from:])
	d.to = d.from + n
	return d, ok
}

// without returns the strokes behind a step as if this were not there, until the machine stands as it does with it, and the number of the step from which on it does: from there on all goes on in the same way.
func (r *record) without(step int) ([]stroke, int, api.Fault) {
	var instead []stroke
	r.machine.now = r.before[step]
	next := step + 1
	for next < len(r.steps) && r.machine.now != r.before[next] {
		l, f := r.strokesOf(next)
		if f != api.OK {
			return nil, 0, f
		}
		instead = append(instead, l...)
		next++
	}
	return instead, next, api.OK
}

// healed returns how many strokes it takes until nothing differs any more; false if all of them are too few.
func healed(differs field, l []stroke) (int, bool) {
	box := differs.box()
	for i, s := range l {
		if len(differs) == 0 {
			return i, true
		}
		if overlap(box, s.box) {
			differs = combined(differs, s.region(), inFirstAlone)
			box = differs.box()
		}
	}
	return len(l), len(differs) == 0
}

// settle tells of which doubts the pictures on the way would be too large. It draws the plot once for all of them.
func (r *record) settle(doubts []doubt) {
	var image picture
	for i, s := range r.strokes {
		image.draw(s)
		for k := range doubts {
			d := &doubts[k]
			if d.isLarge || i < d.from || i >= d.to {
				continue
			}
			if overlap(d.differs.box(), s.box) {
				d.differs = combined(d.differs, s.region(), inFirstAlone)
			}
			d.isLarge = image.isLargeWith(d.differs)
		}
	}
}

// isLargeWith says whether a picture that differs so from this one has too many rectangles.
func (p *picture) isLargeWith(differs field) bool {
	if len(differs) == 0 || p.rects+p.mostMore(differs) <= api.MaxRects {
		return false // which is told without a look at long rows
	}
	from, to, part := p.changed(differs, inOneAlone)
	return p.rects+part.count()-p.bands[from:to].count() > api.MaxRects
}

// mostMore returns a number that is not less than how many rectangles more a picture has that differs so. Each stretch that differs adds at most one to each band, and to each gap between bands, in which it lies; and a band that is cut has all of its stretches twice.
func (p *picture) mostMore(differs field) int {
	n := 0
	for _, b := range differs {
		from, to := p.bands.near(b.low, b.high)
		n += len(b.row) * (2*(to-from) + 1)
		n += len(p.bands.rowAcross(b.low)) + len(p.bands.rowAcross(b.high))
	}
	return n
}
