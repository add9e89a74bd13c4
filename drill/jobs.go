package drill

import (
	"cmp"
	"maps"
	"slices"

	"etchhouse/api"
)

// Chosen gives each hole to a tool, and returns the jobs of these, and the numbers of the holes for which there is none.
func Chosen(t []api.Bit, l []api.Hole, near int) ([]api.Job, []int, api.Fault) {
	if f := CheckTools(t); f != api.OK {
		return nil, nil, f
	}
	if f := CheckHoles(l); f != api.OK {
		return nil, nil, f
	}
	if !isWithin(near, 0, api.MaxHoleSize) {
		return nil, nil, api.ErrRange
	}
	holes := map[string][]api.Hole{} // by their tools
	var missing []int
	for i, h := range l {
		tool, ok := nearest(t, h.Size, near)
		if !ok {
			missing = append(missing, i)
			continue
		}
		holes[tool] = append(holes[tool], h)
	}
	var jobs []api.Job
	for _, one := range t {
		if taken := holes[one.Name]; len(taken) > 0 {
			jobs = append(jobs, api.Job{Tool: one.Name, Holes: taken})
		}
	}
	return jobs, missing, api.OK
}

// nearest returns the name of the tool for holes of a size, and whether there is one.
func nearest(t []api.Bit, size, near int) (string, bool) {
	if len(t) == 0 {
		return "", false
	}
	best := slices.MinFunc(t, func(a, b api.Bit) int { // of several the first one, which has the least name
		return cmp.Or(cmp.Compare(apart(a.Size, size), apart(b.Size, size)), cmp.Compare(b.Size, a.Size))
	})
	return best.Name, apart(best.Size, size) <= near
}

// Same says whether two lists of jobs drill the same holes with the same tools.
func Same(t []api.Bit, a, b []api.Job) (bool, api.Fault) {
	if f := CheckJobs(t, a); f != api.OK {
		return false, f
	}
	if f := CheckJobs(t, b); f != api.OK {
		return false, f
	}
	return maps.Equal(counted(a), counted(b)), api.OK
}

// drilled is a hole with its tool.
type drilled struct {
	tool string
	hole api.Hole
}

// counted tells how often each hole is drilled by each tool.
func counted(j []api.Job) map[drilled]int {
	times := map[drilled]int{}
	for _, one := range j {
		for _, h := range one.Holes {
			times[drilled{one.Tool, h}]++
		}
	}
	return times
}
