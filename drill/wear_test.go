package drill_test

import (
	"fmt"
	"math/rand/v2"
	"testing"

	"etchhouse/api"
	"etchhouse/drill"
)

// change is one of the tool a, in the first job.
func change(hole int) api.Change {
	return api.Change{Tool: "a", Hole: hole}
}

// D5: when bits are changed, and how many of them are needed.
func TestChanges(t *testing.T) {
	for _, l := range []struct {
		what  string
		life  int
		holes int
		want  []api.Change
	}{
		{"no holes", 2, 0, nil}, {"one hole", 1, 1, nil}, {"fewer holes than Life", 3, 2, nil},
		{"just Life holes", 3, 3, nil}, {"one more", 3, 4, []api.Change{change(3)}},
		{"one fewer than twice as many", 3, 5, []api.Change{change(3)}}, {"twice as many", 3, 6, []api.Change{change(3)}}, {"and one more", 3, 7, []api.Change{change(3), change(6)}},
		{"behind each hole", 1, 4, []api.Change{change(1), change(2), change(3)}},
		{"as long a Life as can be", api.MaxHoles, api.MaxHoles, nil}, {"half of it", api.MaxHoles / 2, api.MaxHoles, []api.Change{change(1000)}},
	} {
		needed := 1 + len(l.want)
		for stack, expected := range map[int]api.Fault{0: api.ErrNone, needed - 1: api.ErrNone, needed: api.OK, needed + 1: api.OK, api.MaxStackOf: api.OK} {
			c, f := drill.Changes([]api.Bit{{Name: "a", Size: 1, Life: l.life, Stack: stack}}, []api.Job{{Tool: "a", Holes: row(l.holes)}})
			if expected == api.OK {
				wantGood(t, l.what, c, f, l.want)
			} else {
				wantWrong(t, l.what, f, expected, c)
			}
		}
	}
}

// D5: changes of several jobs.
func TestChangesOfJobs(t *testing.T) {
	const two, three = " 0,0,1,1 9,9,1,1", " 0,0,1,1 9,9,1,1 0,0,1,1"
	for _, l := range []struct {
		what, bits, jobs string
		want             []api.Change
		fault            api.Fault
	}{
		{"nothing", "", "", nil, api.OK}, {"no jobs", "a 1 1 0 | b 1 1 0", "", nil, api.OK},
		{"a job without holes needs a bit", "a 1 1 0", "a", nil, api.ErrNone}, {"and has one", "a 1 1 1", "a", nil, api.OK},
		{"a tool without a job needs none", "a 1 1 0 | b 1 2 1", "b" + two, nil, api.OK},
		{"jobs in their own order", "a 1 1 3 | b 1 2 2", "b" + three + "| a" + two, []api.Change{{Tool: "b", Hole: 2}, {Tool: "a", Job: 1, Hole: 1}}, api.OK},
		{"bits are new for each tool", "a 1 2 1 | b 1 2 1 | c 1 1 3", "a" + two + "| b" + two + "| c" + three, []api.Change{{Tool: "c", Job: 2, Hole: 1}, {Tool: "c", Job: 2, Hole: 2}}, api.OK},
		{"too few of the last one", "a 1 2 9 | b 1 2 1", "a" + three + "| b" + three, nil, api.ErrNone},
		{"too few of the first one", "a 1 2 1 | b 1 2 9", "a" + three + "| b" + three, nil, api.ErrNone},
		{"those left of another one do not help", "a 1 1 2 | b 1 1 9", "a" + three, nil, api.ErrNone},
		{"a job without holes between", "a 1 1 2 | b 1 1 1", "b | a" + two, []api.Change{{Tool: "a", Job: 1, Hole: 1}}, api.OK},
	} {
		c, f := drill.Changes(bits(l.bits), jobs(l.jobs))
		if l.fault != api.OK {
			wantWrong(t, l.what, f, l.fault, c)
			continue
		}
		wantGood(t, l.what, c, f, l.want)
	}
	c, f := drill.Changes([]api.Bit{{Name: "a", Size: 1, Life: 1, Stack: api.MaxStackOf}}, []api.Job{{Tool: "a", Holes: row(api.MaxStackOf)}})
	wantGood(t, "as many bits as can be", len(c), f, api.MaxStackOf-1)
	c, f = drill.Changes([]api.Bit{{Name: "a", Size: 1, Life: 1, Stack: api.MaxStackOf}}, []api.Job{{Tool: "a", Holes: row(api.MaxStackOf + 1)}})
	wantWrong(t, "one more", f, api.ErrNone, c)
}

// D5: how long it takes.
func TestSeconds(t *testing.T) {
	for _, l := range []struct {
		what, bits, jobs string
		from             api.Point
		speed, change    int
		want             int
	}{
		{"nothing", "", "", point(5, 5), 1, 7, 0}, {"a tool without a job", "a 1 1 1", "", point(5, 5), 1, 7, 0},
		{"a job without holes", "a 1 1 1", "a", point(5, 5), 1, 7, 7}, {"two of them", "a 1 1 1 | b 1 1 1", "b | a", point(5, 5), 1, 7, 14},
		{"just a hundred deep", "a 1 1 1", "a 0,0,1,100", point(0, 0), 1, 0, 1}, {"one more", "a 1 1 1", "a 0,0,1,101", point(0, 0), 1, 0, 2}, {"the least depth", "a 1 1 1", "a 0,0,1,1", point(0, 0), 1, 0, 1},
		{"two hundred", "a 1 1 1", "a 0,0,1,200", point(0, 0), 1, 0, 2}, {"the greatest depth", "a 1 1 1", "a 0,0,1,100000", point(0, 0), 1, 0, 1000},
		{"depths are rounded for each hole", "a 1 9 1", "a 0,0,1,50 0,0,1,50,p 0,0,1,150", point(0, 0), 1, 0, 4},
		{"a way that the speed divides", "a 1 9 1", "a 12,5,1,1", point(0, 0), 4, 0, 1 + 3}, {"one more", "a 1 9 1", "a 13,5,1,1", point(0, 0), 4, 0, 1 + 4}, {"one less", "a 1 9 1", "a 5,11,1,1", point(0, 0), 4, 0, 1 + 3},
		{"all distances are rounded together", "a 1 9 1 | b 1 9 1", "a 1,0,1,1 2,0,1,1 | b 3,0,1,1 4,0,1,1", point(0, 0), 4, 0, 4 + 1},
		{"from elsewhere", "a 1 9 1", "a 1,0,1,1 2,0,1,1", point(-2, 9), 1, 0, 2 + 9 + 1},
		{"from job to job, in the order of jobs", "a 1 9 1 | b 1 9 1", "b 10,0,1,1 | a 0,0,1,1", point(10, 0), 1, 0, 2 + 10},
		{"past a job without holes", "a 1 9 1 | b 1 9 1 | c 1 9 1", "a 10,0,1,1 | b | c 30,0,1,1", point(0, 0), 1, 0, 2 + 30},
		{"change seconds for each tool and each change", "a 1 2 9 | b 1 1 9", "a 0,0,1,1 0,0,1,1 0,0,1,1 0,0,1,1 0,0,1,1 | b 0,0,1,1", point(0, 0), 1, 1000, 6 + 4*1000},
		{"no seconds for changes", "a 1 1 9", "a 0,0,1,1 0,0,1,1 0,0,1,1", point(0, 0), 1, 0, 3},
		{"the least speed", "a 1 1 9", "a -1000000,0,1,1 1000000,0,1,1", point(1000000, 0), 1, 0, 4000000 + 2}, {"the greatest speed", "a 1 1 9", "a -1000000,0,1,1 1000000,1,1,1", point(999999, 0), 1000000, 0, 4 + 2},
		{"the greatest speed on a short way", "a 1 1 9", "a 1,0,1,1", point(0, 0), 1000000, 0, 1 + 1}, {"the most seconds for a change", "a 1 1 9", "a 0,0,1,1 0,0,1,1", point(0, 0), 1, 1000000, 2000002},
	} {
		n, f := drill.Seconds(bits(l.bits), jobs(l.jobs), l.from, l.speed, l.change)
		wantGood(t, l.what, n, f, l.want)
	}
}

// D5: the most seconds that there can be.
func TestMostSeconds(t *testing.T) {
	tools := []api.Bit{{Name: "a", Size: 1, Life: 1, Stack: 1000}, {Name: "b", Size: 1, Life: 1, Stack: 1000}}
	l := row(1000)
	for i := range l {
		l[i] = api.Hole{At: point(api.MaxAt*(i%2*2-1), 0), Size: 1, Depth: api.MaxDeep}
	}
	n, f := drill.Seconds(tools, withHoles(tools, l), point(api.MaxAt, 0), 1, api.MaxAt)
	wantGood(t, "all at their limits", n, f, 2000*2*api.MaxAt+2000*api.MaxDeep/100+2000*api.MaxAt)
}

// D5: what Seconds can be asked, and the order of its faults.
func TestFaultsOfSeconds(t *testing.T) {
	const good, few, wrong = "a 1 1 1", "a 1 1 0", "a 0 1 0"
	for _, l := range []struct {
		bits          string
		from          api.Point
		speed, change int
		want          api.Fault
	}{
		{good, point(-api.MaxAt, api.MaxAt), api.MaxAt, 0, api.OK}, {good, point(api.MaxAt, -api.MaxAt), api.MaxAt, 0, api.OK},
		{good, point(-api.MaxAt-1, 0), 1, 0, api.ErrRange}, {good, point(api.MaxAt+1, 0), 1, 0, api.ErrRange}, {good, point(0, -api.MaxAt-1), 1, 0, api.ErrRange}, {good, point(0, api.MaxAt+1), 1, 0, api.ErrRange},
		{good, point(0, 0), 0, 0, api.ErrRange}, {good, point(0, 0), -1, 0, api.ErrRange}, {good, point(0, 0), api.MaxAt + 1, 0, api.ErrRange},
		{good, point(0, 0), 1, -1, api.ErrRange}, {good, point(0, 0), 1, api.MaxAt + 1, api.ErrRange},
		{few, point(0, 0), 1, 0, api.ErrNone}, {few, point(api.MaxAt+1, 0), 0, -1, api.ErrNone}, {wrong, point(api.MaxAt+1, 0), 0, -1, api.ErrRange},
	} {
		n, f := drill.Seconds(bits(l.bits), jobs("a"), l.from, l.speed, l.change)
		wantFault(t, fmt.Sprintf("%+v", l), f, l.want)
		want(t, fmt.Sprintf("%+v", l), n, 0)
	}
	n, f := drill.Seconds(bits(few), jobs("a | a"), point(0, 0), 0, 0)
	wantWrong(t, "a tool twice", f, api.ErrTwice, n)
}

// D5: random jobs hold against the model.
func TestRandomWear(t *testing.T) {
	good := 0
	tried(t, 3000, func(rnd *rand.Rand) {
		tools := randomBits(rnd, rnd.IntN(4), 3)
		j, from, speed, seconds := randomJobs(rnd, tools), randomPoint(rnd, 20), 1+rnd.IntN(30), rnd.IntN(20)
		what := fmt.Sprintf("%+v %+v %+v %d %d", tools, j, from, speed, seconds)
		model, enough := changesModel(tools, j)
		c, f := drill.Changes(tools, j)
		n, f2 := drill.Seconds(tools, j, from, speed, seconds)
		if !enough {
			wantWrong(t, what, f, api.ErrNone, c)
			wantWrong(t, what, f2, api.ErrNone, n)
			return
		}
		good++
		wantGood(t, what, c, f, model)
		wantGood(t, what, n, f2, secondsModel(j, len(model), from, speed, seconds))
	})
	if good < 500 {
		t.Errorf("%d are good", good)
	}
}
