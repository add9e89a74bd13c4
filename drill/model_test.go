package drill_test

import (
	"cmp"
	"math/rand/v2"
	"slices"

	"etchhouse/api"
)

// The model tries all orders, and does all else just as the chapter says it.

func apart(a, b int) int {
	if a < b {
		return b - a
	}
	return a - b
}

func distance(a, b api.Point) int {
	return max(apart(a.X, b.X), apart(a.Y, b.Y))
}

// chosenModel asks for each tool which holes are its own.
func chosenModel(t []api.Bit, l []api.Hole, near int) ([]api.Job, []int) {
	var out []api.Job
	var missing []int
	taken := make([]bool, len(l))
	for _, one := range t {
		job := api.Job{Tool: one.Name}
		for i, h := range l {
			isBeaten := slices.ContainsFunc(t, func(other api.Bit) bool { return isBetterTool(other, one, h.Size) })
			if apart(one.Size, h.Size) <= near && !isBeaten {
				job.Holes = append(job.Holes, h)
				taken[i] = true
			}
		}
		if len(job.Holes) > 0 {
			out = append(out, job)
		}
	}
	for i := range l {
		if !taken[i] {
			missing = append(missing, i)
		}
	}
	return out, missing
}

func isBetterTool(a, b api.Bit, size int) bool {
	if apart(a.Size, size) != apart(b.Size, size) {
		return apart(a.Size, size) < apart(b.Size, size)
	}
	if a.Size != b.Size {
		return a.Size > b.Size
	}
	return a.Name < b.Name
}

// sameModel sorts what is drilled by which tool.
func sameModel(a, b []api.Job) bool {
	type drilled struct {
		tool string
		hole api.Hole
	}
	sorted := func(j []api.Job) []drilled {
		var out []drilled
		for _, one := range j {
			for _, h := range one.Holes {
				out = append(out, drilled{one.Tool, h})
			}
		}
		plated := func(h api.Hole) int {
			if h.Plated {
				return 1
			}
			return 0
		}
		slices.SortFunc(out, func(a, b drilled) int {
			return cmp.Or(cmp.Compare(a.tool, b.tool), cmp.Compare(a.hole.At.X, b.hole.At.X), cmp.Compare(a.hole.At.Y, b.hole.At.Y), cmp.Compare(a.hole.Size, b.hole.Size), cmp.Compare(a.hole.Depth, b.hole.Depth), plated(a.hole)-plated(b.hole))
		})
		return out
	}
	return slices.Equal(sorted(a), sorted(b))
}

func nearModel(l []api.Hole, below int) []api.Pair {
	var out []api.Pair
	for a := range l {
		for b := range l {
			half := (l[a].Size + l[b].Size) / 2
			x, y := apart(l[a].At.X, l[b].At.X)-half, apart(l[a].At.Y, l[b].At.Y)-half
			if n := max(x, y, 0); a < b && n < below && l[a].At != l[b].At {
				out = append(out, api.Pair{A: a, B: b, Distance: n})
			}
		}
	}
	return out
}

// inOrder returns points in another order.
func inOrder(l []api.Point, order []int) []api.Point {
	var out []api.Point
	for _, i := range order {
		out = append(out, l[i])
	}
	return out
}

func wayModel(l []api.Point, from api.Point) int {
	sum := 0
	for _, p := range l {
		sum += distance(from, p)
		from = p
	}
	return sum
}

func greedyModel(l []api.Point, from api.Point) []int {
	var out []int
	for len(out) < len(l) {
		next := -1
		for i, p := range l {
			if !slices.Contains(out, i) && (next < 0 || distance(from, p) < distance(from, l[next])) {
				next = i
			}
		}
		out, from = append(out, next), l[next]
	}
	return out
}

// contrary goes through places i to j in the contrary order.
func contrary(order []int, i, j int) []int {
	out := slices.Clone(order)
	slices.Reverse(out[i : j+1])
	return out
}

// betterModel measures each order whole, does at most so many turns, and returns how many it has done.
func betterModel(l []api.Point, from api.Point, most int) ([]int, int) {
	return turned(l, from, most, func(order []int, i, j int) bool {
		return wayModel(inOrder(l, contrary(order, i, j)), from) < wayModel(inOrder(l, order), from)
	})
}

// quickModel is the same for many points: it measures what is at both ends of the places alone.
func quickModel(l []api.Point, from api.Point, most int) ([]int, int) {
	return turned(l, from, most, func(order []int, i, j int) bool {
		ahead := from
		if i > 0 {
			ahead = l[order[i-1]]
		}
		first, last := l[order[i]], l[order[j]]
		if j == len(order)-1 {
			return distance(ahead, last) < distance(ahead, first)
		}
		behind := l[order[j+1]]
		return distance(ahead, last)+distance(first, behind) < distance(ahead, first)+distance(last, behind)
	})
}

func turned(l []api.Point, from api.Point, most int, isShorter func(order []int, i, j int) bool) ([]int, int) {
	order := greedyModel(l, from)
	next := func() (int, int, bool) {
		for i := range order {
			for j := i + 1; j < len(order); j++ {
				if isShorter(order, i, j) {
					return i, j, true
				}
			}
		}
		return 0, 0, false
	}
	for turns := range most {
		i, j, more := next()
		if !more {
			return order, turns
		}
		order = contrary(order, i, j)
	}
	return order, most
}

// shortestModel tries all orders, the least ones first.
func shortestModel(l []api.Point, from api.Point) ([]int, int) {
	var best []int
	length := -1
	var try func(order []int)
	try = func(order []int) {
		if len(order) == len(l) {
			if n := wayModel(inOrder(l, order), from); length < 0 || n < length {
				best, length = slices.Clone(order), n
			}
			return
		}
		for i := range l {
			if !slices.Contains(order, i) {
				try(append(slices.Clone(order), i))
			}
		}
	}
	try(nil)
	return best, length
}

// changesModel drills hole by hole, and takes bits one by one; false if there are too few of them.
func changesModel(t []api.Bit, j []api.Job) ([]api.Change, bool) {
	var out []api.Change
	for number, one := range j {
		tool := t[slices.IndexFunc(t, func(b api.Bit) bool { return b.Name == one.Tool })]
		left, good := tool.Stack-1, tool.Life
		for i := range one.Holes {
			if good == 0 {
				out = append(out, api.Change{Tool: one.Tool, Job: number, Hole: i})
				left, good = left-1, tool.Life
			}
			good--
		}
		if left < 0 {
			return nil, false
		}
	}
	return out, true
}

// secondsModel counts them one by one.
func secondsModel(j []api.Job, changes int, from api.Point, speed, change int) int {
	seconds, way := 0, 0
	for _, one := range j {
		seconds += change
		for _, h := range one.Holes {
			way += distance(from, h.At)
			from = h.At
			for deep := h.Depth; deep > 0; deep -= 100 {
				seconds++
			}
		}
	}
	for ; way > 0; way -= speed {
		seconds++
	}
	return seconds + changes*change
}

func randomPoints(rnd *rand.Rand, many, most int) []api.Point {
	var out []api.Point
	for range many {
		out = append(out, randomPoint(rnd, most))
	}
	return out
}

func randomPoint(rnd *rand.Rand, most int) api.Point {
	return point(rnd.IntN(2*most+1)-most, rnd.IntN(2*most+1)-most)
}

func randomHoles(rnd *rand.Rand, many, most, sizes int) []api.Hole {
	var out []api.Hole
	for _, p := range randomPoints(rnd, many, most) {
		out = append(out, api.Hole{At: p, Size: 1 + rnd.IntN(sizes), Depth: 1 + rnd.IntN(3)*rnd.IntN(200), Plated: rnd.IntN(2) == 0})
	}
	return out
}

func randomBits(rnd *rand.Rand, many, sizes int) []api.Bit {
	var out []api.Bit
	for i := range many {
		out = append(out, api.Bit{Name: "t" + string(rune('a'+i)), Size: 1 + rnd.IntN(sizes), Life: 1 + rnd.IntN(5), Stack: rnd.IntN(6)})
	}
	return out
}

// randomJobs are for some of the tools, in any order.
func randomJobs(rnd *rand.Rand, t []api.Bit) []api.Job {
	var out []api.Job
	for _, one := range shuffled(rnd, t)[:rnd.IntN(len(t)+1)] {
		out = append(out, api.Job{Tool: one.Name, Holes: randomHoles(rnd, rnd.IntN(9), 20, 9)})
	}
	return out
}
