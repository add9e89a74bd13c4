// Package drill has holes and the tools that drill them: which tool takes which hole, what is drilled twice or too near, in which order the machine goes, when bits are changed, and how long it all takes.
package drill

import (
	"etchhouse/api"
	"etchhouse/texts"
)

// CheckHoles validates holes, which can be in any order, and there twice.
func CheckHoles(l []api.Hole) api.Fault {
	if len(l) > api.MaxHoles {
		return api.ErrLarge
	}
	for _, h := range l {
		if !isPlace(h.At) || !isSize(h.Size) || !isWithin(h.Depth, 1, api.MaxDeep) {
			return api.ErrRange
		}
	}
	return api.OK
}

func isWithin(n, least, most int) bool {
	return n >= least && n <= most
}

func isPlace(p api.Point) bool {
	return isWithin(p.X, -api.MaxAt, api.MaxAt) && isWithin(p.Y, -api.MaxAt, api.MaxAt)
}

func isSize(n int) bool {
	return isWithin(n, 1, api.MaxHoleSize)
}

// CheckTools validates tools.
func CheckTools(t []api.Bit) api.Fault {
	if len(t) > api.MaxBits {
		return api.ErrLarge
	}
	for i, one := range t {
		switch {
		case !texts.IsWord(one.Name):
			return api.ErrName
		case !isSize(one.Size) || !isWithin(one.Life, 1, api.MaxHoles) || !isWithin(one.Stack, 0, api.MaxStackOf):
			return api.ErrRange
		case i > 0 && one.Name <= t[i-1].Name:
			return api.ErrOrder
		}
	}
	return api.OK
}

// CheckJobs validates tools, then what they drill.
func CheckJobs(t []api.Bit, j []api.Job) api.Fault {
	if f := CheckTools(t); f != api.OK {
		return f
	}
	if len(j) > api.MaxBits {
		return api.ErrLarge
	}
	tools, taken, holes := byName(t), map[string]bool{}, 0
	for _, one := range j {
		if _, known := tools[one.Tool]; !known {
			return api.ErrNone
		}
		if taken[one.Tool] {
			return api.ErrTwice
		}
		taken[one.Tool] = true
		if f := CheckHoles(one.Holes); f != api.OK {
			return f
		}
		holes += len(one.Holes)
	}
	if holes > api.MaxHoles {
		return api.ErrLarge
	}
	return api.OK
}

func byName(t []api.Bit) map[string]api.Bit {
	tools := make(map[string]api.Bit, len(t))
	for _, one := range t {
		tools[one.Name] = one
	}
	return tools
}
