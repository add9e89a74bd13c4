package drill_test

import (
	"fmt"
	"strings"
	"testing"

	"etchhouse/api"
	"etchhouse/drill"
)

// D1: holes, within each limit and one past it.
func TestCheckHoles(t *testing.T) {
	for _, l := range []struct {
		holes string
		want  api.Fault
	}{
		{"", api.OK},
		{"0,0,1,1", api.OK}, {"5,-7,300,1600,p", api.OK},
		{"9,9,3,3 0,0,2,2 9,9,3,3 9,9,1,1", api.OK}, // in any order, and there twice
		{"1000000,1000000,10000,100000 -1000000,-1000000,1,1,p", api.OK},
		{"1000001,0,1,1", api.ErrRange}, {"-1000001,0,1,1", api.ErrRange},
		{"0,1000001,1,1", api.ErrRange}, {"0,-1000001,1,1", api.ErrRange},
		{"0,0,0,1", api.ErrRange}, {"0,0,-1,1", api.ErrRange}, {"0,0,10001,1", api.ErrRange},
		{"0,0,1,0", api.ErrRange}, {"0,0,1,-1", api.ErrRange}, {"0,0,1,100001", api.ErrRange},
		{"0,0,1,1 0,0,1,1 0,0,1,0", api.ErrRange},
	} {
		wantFault(t, l.holes, drill.CheckHoles(holes(l.holes)), l.want)
	}
	wantFault(t, "as many as can be", drill.CheckHoles(row(api.MaxHoles)), api.OK)
	wantFault(t, "one more", drill.CheckHoles(row(api.MaxHoles+1)), api.ErrLarge)
	wantFault(t, "one more, and all wrong", drill.CheckHoles(make([]api.Hole, api.MaxHoles+1)), api.ErrLarge)
}

// D1: tools, within each limit and one past it; of each one the name, the numbers and the order are asked for before the next one.
func TestCheckTools(t *testing.T) {
	for _, l := range []struct {
		bits string
		want api.Fault
	}{
		{"", api.OK},
		{"a 1 1 0", api.OK}, {"z9_+-# 10000 2000 1000", api.OK},
		{"A 1 1 0 | B 1 1 0 | a 1 1 0 | ab 1 1 0 | b 1 1 0", api.OK},
		{strings.Repeat("x", api.MaxName) + " 1 1 1", api.OK}, {strings.Repeat("x", api.MaxName+1) + " 1 1 1", api.ErrName},
		{"a/b 1 1 1", api.ErrName}, {"a.b 1 1 1", api.ErrName}, {"é 1 1 1", api.ErrName},
		{"a 0 1 1", api.ErrRange}, {"a -1 1 1", api.ErrRange}, {"a 10001 1 1", api.ErrRange},
		{"a 1 0 1", api.ErrRange}, {"a 1 -1 1", api.ErrRange}, {"a 1 2001 1", api.ErrRange},
		{"a 1 1 -1", api.ErrRange}, {"a 1 1 1001", api.ErrRange},
		{"a 1 1 1 | a 2 2 2", api.ErrOrder}, {"b 1 1 1 | a 1 1 1", api.ErrOrder}, {"ab 1 1 1 | a 1 1 1", api.ErrOrder}, {"a 1 1 1 | B 1 1 1", api.ErrOrder},
		{"a 1 1 1 | b 1 1 1 | b 1 1 1", api.ErrOrder},
		{"? 0 1 1", api.ErrName}, {"b 1 1 1 | a 0 1 1", api.ErrRange}, {"b 1 1 1 | ? 0 1 1", api.ErrName}, {"b 1 1 1 | a 1 1 1 | ? 1 1 1", api.ErrOrder}, {"a 1 1 1 | b 1 1 1001 | ? 1 1 1", api.ErrRange},
	} {
		wantFault(t, l.bits, drill.CheckTools(bits(l.bits)), l.want)
	}
	wantFault(t, "no name", drill.CheckTools([]api.Bit{{Size: 1, Life: 1, Stack: 1}}), api.ErrName)
	wantFault(t, "as many as can be", drill.CheckTools(manyBits(api.MaxBits)), api.OK)
	wantFault(t, "one more", drill.CheckTools(manyBits(api.MaxBits+1)), api.ErrLarge)
	wantFault(t, "one more, and all wrong", drill.CheckTools(make([]api.Bit, api.MaxBits+1)), api.ErrLarge)
}

// D1: names are words of certain bytes.
func TestNamesOfTools(t *testing.T) {
	const letters = "ABCDEFGHIJKLMNOPQRSTUVWXYZabcdefghijklmnopqrstuvwxyz0123456789_+-#"
	for b := range 256 {
		expected := api.ErrName
		if strings.IndexByte(letters, byte(b)) >= 0 {
			expected = api.OK
		}
		for _, name := range []string{string([]byte{byte(b)}), string([]byte{'a', byte(b), 'b'})} {
			wantFault(t, fmt.Sprintf("%q", name), drill.CheckTools([]api.Bit{{Name: name, Size: 1, Life: 1}}), expected)
		}
	}
}

// D2: jobs, behind their tools; of each one the tool, whether it is taken, and its holes before the next one; how many they have together at last.
func TestCheckJobs(t *testing.T) {
	const ab = "a 10 2 3 | b 20 5 1"
	for _, l := range []struct {
		bits, jobs string
		want       api.Fault
	}{
		{"", "", api.OK}, {ab, "", api.OK},
		{ab, "a", api.OK}, {ab, "b 0,0,1,1 0,0,1,1", api.OK}, {ab, "b 0,0,9,9 | a 5,5,300,7,p", api.OK}, {ab, "b | a", api.OK},
		{"a 10 2 0", "a 0,0,1,1 0,0,1,1 0,0,1,1", api.OK}, // too few bits are no fault yet
		{"b 1 1 1 | a 1 1 1", "a", api.ErrOrder}, {"a 1 1 1001", "b", api.ErrRange}, {"? 1 1 1", "? 0,0,0,0", api.ErrName},
		{"", "a", api.ErrNone}, {ab, "c", api.ErrNone}, {ab, "A", api.ErrNone}, {ab, "ab", api.ErrNone}, {ab, "c 0,0,0,0", api.ErrNone}, {ab, "a | b | c", api.ErrNone},
		{ab, "a | a", api.ErrTwice}, {ab, "a | b | a", api.ErrTwice}, {ab, "b 0,0,1,1 | b 0,0,0,0", api.ErrTwice},
		{ab, "a 0,0,0,1", api.ErrRange}, {ab, "a | b 0,0,1,1 0,0,1,0", api.ErrRange},
		{ab, "a 0,0,0,1 | a", api.ErrRange}, {ab, "c | a 0,0,0,1", api.ErrNone}, {ab, "a | a | c", api.ErrTwice}, {ab, "a 0,0,0,1 | c", api.ErrRange}, {ab, "a | c | a", api.ErrNone},
	} {
		wantFault(t, l.bits+" / "+l.jobs, drill.CheckJobs(bits(l.bits), jobs(l.jobs)), l.want)
	}
	wantFault(t, "no Tool", drill.CheckJobs(bits(ab), []api.Job{{}}), api.ErrNone)
}

// D2: as many jobs and holes as can be, and one more.
func TestManyJobs(t *testing.T) {
	tools := manyBits(api.MaxBits)
	most := withHoles(tools, row(api.MaxHoles/api.MaxBits))
	wantFault(t, "as many as can be", drill.CheckJobs(tools, most), api.OK)
	wantFault(t, "one job more", drill.CheckJobs(tools, append(most, api.Job{Tool: "aaa"})), api.ErrLarge)
	wantFault(t, "one job more, and all wrong", drill.CheckJobs(tools, make([]api.Job, api.MaxBits+1)), api.ErrLarge)
	wantFault(t, "one job more, and the tools wrong", drill.CheckJobs(make([]api.Bit, 1), make([]api.Job, api.MaxBits+1)), api.ErrName)
	more := withHoles(tools, row(api.MaxHoles/api.MaxBits))
	more[50].Holes = row(api.MaxHoles/api.MaxBits + 1)
	wantFault(t, "one hole more", drill.CheckJobs(tools, more), api.ErrLarge)
	more[99].Tool = "zzz"
	wantFault(t, "one hole more, and a tool that is not there", drill.CheckJobs(tools, more), api.ErrNone)
	more[99].Tool = more[98].Tool
	wantFault(t, "one hole more, and a tool twice", drill.CheckJobs(tools, more), api.ErrTwice)
	one := withHoles(tools[:1], row(api.MaxHoles))
	wantFault(t, "one job with all holes", drill.CheckJobs(tools, one), api.OK)
	wantFault(t, "and one without", drill.CheckJobs(tools, append(one, api.Job{Tool: "aab"})), api.OK)
	wantFault(t, "and one with one hole", drill.CheckJobs(tools, append(one, api.Job{Tool: "aab", Holes: row(1)})), api.ErrLarge)
	one[0].Holes = row(api.MaxHoles + 1)
	wantFault(t, "one job with one hole more", drill.CheckJobs(tools, one), api.ErrLarge)
	wantFault(t, "before a tool that is not there", drill.CheckJobs(tools, append(one, api.Job{Tool: "zzz"})), api.ErrLarge)
}
