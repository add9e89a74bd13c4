package drill_test

import (
	"fmt"
	"math/rand/v2"
	"testing"

	"etchhouse/api"
	"etchhouse/drill"
)

// D2: which tool takes which hole.
func TestChosen(t *testing.T) {
	for _, l := range []struct {
		what, bits, holes string
		near              int
		jobs              string
		missing           []int
	}{
		{"nothing", "", "", 0, "", nil},
		{"no tools", "", "0,0,5,1 0,0,6,1", 10000, "", []int{0, 1}},
		{"no holes", "a 5 1 1 | b 9 1 1", "", 3, "", nil},
		{"its size", "a 5 1 1", "0,0,5,1", 0, "a 0,0,5,1", nil},
		{"near of 0", "a 5 1 1", "0,0,4,1 0,0,6,1 0,0,5,1", 0, "a 0,0,5,1", []int{0, 1}},
		{"just near enough, and not", "a 50 1 1", "0,0,46,1 0,0,47,1 0,0,53,1 0,0,54,1", 3, "a 0,0,47,1 0,0,53,1", []int{0, 3}},
		{"the nearer one", "a 10 1 1 | b 15 1 1", "0,0,12,1 0,0,13,1", 9, "a 0,0,12,1 | b 0,0,13,1", nil},
		{"as near: the greater size", "a 10 1 1 | b 14 1 1", "0,0,12,1", 2, "b 0,0,12,1", nil},
		{"as near: the greater size, which has the lesser name", "a 14 1 1 | b 10 1 1", "0,0,12,1", 2, "a 0,0,12,1", nil},
		{"of one size: the lesser name", "a 9 1 1 | b 12 1 1 | c 12 9 9", "0,0,13,1 0,0,12,1", 1, "b 0,0,13,1 0,0,12,1", nil},
		{"as near, and of one size", "a 10 1 1 | b 14 1 1 | c 14 1 1 | d 10 1 1", "0,0,12,1", 2, "b 0,0,12,1", nil},
		{"a nearer one behind them", "a 10 1 1 | b 14 1 1 | c 11 1 1", "0,0,12,1", 2, "c 0,0,12,1", nil},
		{"holes in their order, jobs by name", "a 5 1 1 | b 50 1 1", "9,9,50,1 1,1,6,2,p 3,3,49,3 20,20,500,1 1,1,6,2,p 0,0,4,4", 1, "a 1,1,6,2,p 1,1,6,2,p 0,0,4,4 | b 9,9,50,1 3,3,49,3", []int{3}},
		{"Stack and Life do not matter", "a 5 1 0", "0,0,5,1 0,0,5,1", 0, "a 0,0,5,1 0,0,5,1", nil},
		{"the greatest near", "a 10000 1 1", "0,0,1,1", 10000, "a 0,0,1,1", nil},
		{"the least size", "a 1 1 1 | b 10000 1 1", "0,0,5001,1 0,0,5000,1", 5000, "a 0,0,5000,1 | b 0,0,5001,1", nil},
	} {
		j, missing, f := drill.Chosen(bits(l.bits), holes(l.holes), l.near)
		wantGood(t, l.what, j, f, jobs(l.jobs))
		want(t, l.what, missing, l.missing)
	}
}

// D2: the numbers that near can be.
func TestChosenNear(t *testing.T) {
	for near, expected := range map[int]api.Fault{-1: api.ErrRange, 0: api.OK, api.MaxHoleSize: api.OK, api.MaxHoleSize + 1: api.ErrRange} {
		for _, tools := range []string{"", "a 5 1 1"} {
			j, missing, f := drill.Chosen(bits(tools), nil, near)
			wantWrong(t, fmt.Sprint(near), f, expected, j, missing)
		}
	}
}

// D2: random tools and holes hold against the model; what is chosen are jobs without a fault.
func TestRandomChosen(t *testing.T) {
	tried(t, 2000, func(rnd *rand.Rand) {
		sizes := 1 + rnd.IntN(20)
		tools, l, near := randomBits(rnd, rnd.IntN(6), sizes), randomHoles(rnd, rnd.IntN(15), 5, sizes), rnd.IntN(5)
		what := fmt.Sprintf("%+v %+v %d", tools, l, near)
		j, missing, f := drill.Chosen(tools, l, near)
		wantJobs, wantMissing := chosenModel(tools, l, near)
		wantGood(t, what, j, f, wantJobs)
		want(t, what, missing, wantMissing)
		wantFault(t, what, drill.CheckJobs(tools, j), api.OK)
	})
}

// D2: as many tools and holes as can be.
func TestManyChosen(t *testing.T) {
	tools, l := manyBits(api.MaxBits), row(api.MaxHoles)
	for i := range l {
		l[i].Size = 1 + i%(api.MaxBits+1)
	}
	j, missing, f := drill.Chosen(tools, l, 0)
	wantJobs, wantMissing := chosenModel(tools, l, 0)
	wantGood(t, "many", j, f, wantJobs)
	want(t, "many", missing, wantMissing)
	want(t, "many", len(missing), api.MaxHoles/(api.MaxBits+1))
}

// D2: lists of jobs that drill the same.
func TestSame(t *testing.T) {
	tools := bits("a 5 1 1 | b 5 1 1 | c 9 1 1")
	for _, l := range []struct {
		what, a, b string
		want       bool
	}{
		{"nothing", "", "", true},
		{"a job without holes drills nothing", "", "a", true}, {"another one without holes", "a", "b | c", true},
		{"itself", "a 1,2,3,4 | b 5,6,7,8,p", "a 1,2,3,4 | b 5,6,7,8,p", true},
		{"jobs in another order", "a 1,2,3,4 | b 5,6,7,8,p", "b 5,6,7,8,p | a 1,2,3,4", true},
		{"holes in another order", "a 1,2,3,4 5,6,7,8 1,1,1,1", "a 1,1,1,1 1,2,3,4 5,6,7,8", true},
		{"equal holes in another order", "a 1,1,1,1 2,2,2,2 1,1,1,1", "a 1,1,1,1 1,1,1,1 2,2,2,2", true},
		{"not as often", "a 1,1,1,1 2,2,2,2 1,1,1,1", "a 1,1,1,1 2,2,2,2 2,2,2,2", false},
		{"once more", "a 1,1,1,1", "a 1,1,1,1 1,1,1,1", false},
		{"one more", "a 1,1,1,1", "a 1,1,1,1 1,2,1,1", false},
		{"none of them", "a 1,1,1,1", "", false}, {"none of its holes", "a 1,1,1,1", "a", false},
		{"with a job without holes", "a 1,1,1,1", "c | a 1,1,1,1", true},
		{"with another tool of the same size", "a 1,1,1,1", "b 1,1,1,1", false},
		{"with the tools exchanged", "a 1,1,1,1 | b 2,2,2,2", "a 2,2,2,2 | b 1,1,1,1", false},
		{"one hole with the other tool", "a 1,1,1,1 1,1,1,1 | b 1,1,1,1", "a 1,1,1,1 | b 1,1,1,1 1,1,1,1", false},
		{"another X", "a 1,1,1,1", "a 2,1,1,1", false}, {"another Y", "a 1,1,1,1", "a 1,2,1,1", false}, {"another Size", "a 1,1,1,1", "a 1,1,2,1", false},
		{"another Depth", "a 1,1,1,1", "a 1,1,1,2", false}, {"plated", "a 1,1,1,1", "a 1,1,1,1,p", false}, {"X and Y exchanged", "a 1,2,1,1", "a 2,1,1,1", false},
	} {
		for _, pair := range [][2]string{{l.a, l.b}, {l.b, l.a}} {
			is, f := drill.Same(tools, jobs(pair[0]), jobs(pair[1]))
			wantGood(t, l.what, is, f, l.want)
		}
	}
}

// D2: the faults of a come before those of b.
func TestFaultsOfSame(t *testing.T) {
	tools := bits("a 5 1 1 | b 5 1 1")
	for _, l := range []struct {
		a, b string
		want api.Fault
	}{
		{"c", "", api.ErrNone}, {"", "c", api.ErrNone}, {"c", "c", api.ErrNone},
		{"a | a", "c", api.ErrTwice}, {"c", "a | a", api.ErrNone}, {"a 0,0,0,0", "a | a", api.ErrRange}, {"a | a", "a 0,0,0,0", api.ErrTwice}, {"b", "a | a", api.ErrTwice},
	} {
		is, f := drill.Same(tools, jobs(l.a), jobs(l.b))
		wantWrong(t, l.a+" / "+l.b, f, l.want, is)
	}
	is, f := drill.Same(bits("a 0 1 1"), jobs("a | a"), nil)
	wantWrong(t, "a tool", f, api.ErrRange, is)
	is, f = drill.Same(tools, nil, []api.Job{{Tool: "a", Holes: row(api.MaxHoles)}, {Tool: "b", Holes: row(1)}})
	wantWrong(t, "too many holes", f, api.ErrLarge, is)
	is, f = drill.Same(tools, []api.Job{{Tool: "a", Holes: row(api.MaxHoles)}}, []api.Job{{Tool: "a", Holes: row(api.MaxHoles)}, {Tool: "b"}})
	wantGood(t, "as many holes as can be", is, f, true)
}

// D2: random jobs, with one thing changed or none, hold against the model.
func TestRandomSame(t *testing.T) {
	count := map[bool]int{}
	tried(t, 3000, func(rnd *rand.Rand) {
		tools := randomBits(rnd, 1+rnd.IntN(3), 3)
		a := randomJobs(rnd, tools)
		var b []api.Job
		for _, one := range shuffled(rnd, a) {
			b = append(b, api.Job{Tool: one.Tool, Holes: shuffled(rnd, one.Holes)})
		}
		if n := rnd.IntN(8); len(b) > 0 && len(b[0].Holes) > 0 {
			l := b[0].Holes
			changes := []func(){func() { l[0].Size++ }, func() { l[0].Depth++ }, func() { l[0].Plated = !l[0].Plated }, func() { l[0].At.X++ }, func() { b[0].Holes = l[1:] }, func() { l[len(l)-1] = l[0] }, func() { b[0].Holes = append(l, l[0]) }, func() {}}
			changes[n]()
		}
		is, f := drill.Same(tools, a, b)
		wantGood(t, fmt.Sprintf("%+v %+v %+v", tools, a, b), is, f, sameModel(a, b))
		count[is]++
	})
	if count[true] < 500 || count[false] < 500 {
		t.Errorf("%v", count)
	}
}
