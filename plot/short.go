package plot

import "etchhouse/api"

// mark is the place, tool and darkness of a flash or line.
type mark struct {
	place api.Point
	tool  string
	dark  int
}

// known is what is known of a machine between steps.
type known struct {
	placed bool // whether the place is known
	marked bool // whether what was drawn last is a flash or a line: last
	now    mark // tool is empty and dark 0 where they are not known
	last   mark
}

// Short returns a plot without the steps that do nothing.
func Short(p api.Plot) (api.Plot, api.Fault) {
	if f := CheckPlot(p); f != api.OK {
		return api.Plot{}, f
	}
	out := noChange().plot(p)
	for {
		before := len(out.Steps)
		out.Steps = withoutIdle(out.Steps)
		if len(out.Steps) == before {
			return out, api.OK
		}
	}
}

// withoutIdle goes through steps once, and leaves out those that do nothing behind the ones it has kept.
func withoutIdle(steps []api.PlotStep) []api.PlotStep {
	k := known{now: mark{dark: api.StepDark}}
	var kept []api.PlotStep
	for i, s := range steps {
		if !k.isIdle(s, steps[i+1:]) {
			kept = append(kept, s)
			k.follow(s)
		}
	}
	return kept
}

// isIdle says whether a step with others behind it does nothing.
func (k *known) isIdle(s api.PlotStep, behind []api.PlotStep) bool {
	switch s.Kind {
	case api.StepDark, api.StepClear:
		return s.Kind == k.now.dark || isOvertaken(behind, setsDark, draws)
	case api.StepUse:
		return s.Name == k.now.tool || isOvertaken(behind, setsTool, usesTool)
	case api.StepMove:
		return isOvertaken(behind, setsPlace, usesPlace)
	case api.StepLine:
		return k.placed && k.marked && s.At == k.now.place && k.now == k.last
	}
	return false
}

// isOvertaken says whether a step that sets something again, or the end, comes before one that uses it.
func isOvertaken(behind []api.PlotStep, sets, uses func(kind int) bool) bool {
	for _, s := range behind {
		if uses(s.Kind) {
			return false
		}
		if sets(s.Kind) {
			return true
		}
	}
	return true
}

func setsDark(kind int) bool { return kind == api.StepDark || kind == api.StepClear }

func draws(kind int) bool { return usesTool(kind) || kind == api.StepArea }

func setsTool(kind int) bool { return kind == api.StepUse }

func usesTool(kind int) bool { return kind == api.StepFlash || usesPlace(kind) }

func setsPlace(kind int) bool { return kind == api.StepMove || kind == api.StepFlash }

// usesPlace is true of a line, and of a repeat: whatever is in a repeat, it counts as all that can use something.
func usesPlace(kind int) bool { return kind == api.StepLine || kind == api.StepRepeat }

// follow takes in what a step does.
func (k *known) follow(s api.PlotStep) {
	switch s.Kind {
	case api.StepDark, api.StepClear:
		k.now.dark = s.Kind
	case api.StepUse:
		k.now.tool = s.Name
	case api.StepMove:
		k.placed, k.now.place = true, s.At
	case api.StepFlash, api.StepLine:
		k.placed, k.now.place = true, s.At
		k.marked, k.last = true, k.now
	case api.StepArea:
		k.marked = false
	case api.StepRepeat:
		*k = known{}
	}
}
