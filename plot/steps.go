package plot

import (
	"iter"

	"etchhouse/api"
)

// mapped returns a new list of what becomes of each element.
func mapped[E any](l []E, f func(E) E) []E {
	out := make([]E, 0, len(l))
	for _, e := range l {
		out = append(out, f(e))
	}
	return out
}

func sum(p, q api.Point) api.Point {
	return api.Point{X: p.X + q.X, Y: p.Y + q.Y}
}

// done tells the steps of a plot as they are done, with how far the repeats around each of them move it. Repeats themselves are not told.
func done(steps []api.PlotStep) iter.Seq2[api.PlotStep, api.Point] {
	return func(yield func(api.PlotStep, api.Point) bool) {
		doneAt(steps, api.Point{}, yield)
	}
}

// doneAt is done of steps that are moved; false if it was told to stop.
func doneAt(steps []api.PlotStep, by api.Point, yield func(api.PlotStep, api.Point) bool) bool {
	for _, s := range steps {
		if s.Kind != api.StepRepeat {
			if !yield(s, by) {
				return false
			}
			continue
		}
		for j := range s.NY {
			for i := range s.NX {
				if !doneAt(s.Steps, sum(by, api.Point{X: i * s.At.X, Y: j * s.At.Y}), yield) {
					return false
				}
			}
		}
	}
	return true
}
