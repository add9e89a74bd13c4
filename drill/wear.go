package drill

import (
	"etchhouse/api"
)

// Changes says when bits are changed.
func Changes(t []api.Bit, j []api.Job) ([]api.Change, api.Fault) {
	if f := CheckJobs(t, j); f != api.OK {
		return nil, f
	}
	tools := byName(t)
	var changes []api.Change
	for i, one := range j {
		tool, before := tools[one.Tool], len(changes)
		for done := tool.Life; done < len(one.Holes); done += tool.Life {
			changes = append(changes, api.Change{Tool: tool.Name, Job: i, Hole: done})
		}
		if 1+len(changes)-before > tool.Stack {
			return nil, api.ErrNone
		}
	}
	return changes, api.OK
}

// perSecond is how many micrometres deep the machine drills in a second.
const perSecond = 100

// Seconds returns how long all jobs take.
func Seconds(t []api.Bit, j []api.Job, from api.Point, speed, change int) (int, api.Fault) {
	changes, f := Changes(t, j)
	if f != api.OK {
		return 0, f
	}
	if !isPlace(from) || !isWithin(speed, 1, api.MaxAt) || !isWithin(change, 0, api.MaxAt) {
		return 0, api.ErrRange
	}
	length, deep, at := 0, 0, from
	for _, one := range j {
		for _, h := range one.Holes {
			length += distance(at, h.At)
			deep += roundedUp(h.Depth, perSecond)
			at = h.At
		}
	}
	return roundedUp(length, speed) + deep + change*(len(j)+len(changes)), api.OK
}

// roundedUp divides; n is not below 0.
func roundedUp(n, by int) int {
	return (n + by - 1) / by
}
