package plot

import (
	"cmp"
	"slices"

	"etchhouse/api"
	"etchhouse/shape"
)

// Of returns the plot of a region: an area for each of its outlines. Those that go around most stand first, so each one lies behind those around it.
func Of(r []api.Rect) (api.Plot, api.Fault) {
	outlines, f := shape.Outlines(r)
	if f != api.OK {
		return api.Plot{}, f
	}
	slices.SortStableFunc(outlines, func(a, b []api.Point) int {
		return cmp.Compare(max(around(b), -around(b)), max(around(a), -around(a)))
	})
	out := api.Plot{Unit: 1}
	now := api.StepDark
	for _, row := range outlines {
		kind := api.StepDark
		if around(row) < 0 {
			kind = api.StepClear
		}
		if kind != now {
			out.Steps = append(out.Steps, api.PlotStep{Kind: kind})
			now = kind
		}
		out.Steps = append(out.Steps, api.PlotStep{Kind: api.StepArea, Points: row})
	}
	return out, api.OK
}

// around returns how many squares an outline goes around: below 0 if it does so to the right, as those of holes do.
func around(row []api.Point) int {
	n := 0
	before := row[len(row)-1]
	for _, p := range row {
		n += (before.X - p.X) * p.Y // the squares under a side that goes to the left count, those under one to the right are taken away
		before = p
	}
	return n
}
