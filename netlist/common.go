package netlist

import (
	"slices"
	"strings"

	"etchhouse/api"
)

// numbered tells the place of each element by its name; of elements with one name, which no list that is right has, the first one counts.
func numbered[T any](l []T, name func(T) string) map[string]int {
	places := make(map[string]int, len(l))
	for i, e := range l {
		if _, ok := places[name(e)]; !ok {
			places[name(e)] = i
		}
	}
	return places
}

func typeName(t api.PartType) string { return t.Name }

func partName(p api.Part) string { return p.Name }

func netName(n api.Net) string { return n.Name }

// checkEach validates elements that must be there, be in order, and not be taken before.
func checkEach[T any](l []T, there func(T) bool, compare func(a, b T) int, taken func(T) bool) api.Fault {
	for i, e := range l {
		switch {
		case !there(e):
			return api.ErrNone
		case i > 0 && compare(l[i-1], e) >= 0:
			return api.ErrOrder
		case taken(e):
			return api.ErrTwice
		}
	}
	return api.OK
}

// checkNames validates names of some things that are there.
func checkNames(names []string, limit int, places map[string]int) api.Fault {
	if len(names) > limit {
		return api.ErrLarge
	}
	there := func(name string) bool { _, ok := places[name]; return ok }
	never := func(string) bool { return false }
	return checkEach(names, there, strings.Compare, never)
}

// grouped sorts elements, and returns those that are equal together.
func grouped[T any](l []T, compare func(a, b T) int) [][]T {
	l = slices.Clone(l)
	slices.SortStableFunc(l, compare)
	var groups [][]T
	for i, e := range l {
		if i == 0 || compare(l[i-1], e) != 0 {
			groups = append(groups, nil)
		}
		last := len(groups) - 1
		groups[last] = append(groups[last], e)
	}
	return groups
}

func comparePins(a, b api.Pin) int {
	if c := strings.Compare(a.Part, b.Part); c != 0 {
		return c
	}
	return strings.Compare(a.Pin, b.Pin)
}

// pinOf is the place of a pin in its type.
func pinOf(t api.PartType, name string) (int, bool) {
	return slices.BinarySearchFunc(t.Pins, name, func(p api.PinType, name string) int {
		return strings.Compare(p.Name, name)
	})
}

// joints holds numbers that belong together: each one leads, over others, to the least of them.
type joints []int

func newJoints(n int) joints {
	j := make(joints, n)
	for i := range j {
		j[i] = i
	}
	return j
}

// least is the least number that belongs together with i.
func (j joints) least(i int) int {
	for j[i] != i {
		j[i] = j[j[i]]
		i = j[i]
	}
	return i
}

func (j joints) join(a, b int) {
	a, b = j.least(a), j.least(b)
	j[max(a, b)] = min(a, b)
}
