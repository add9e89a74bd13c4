package drill_test

import (
	"fmt"
	"math/rand/v2"
	"regexp"
	"strings"
	"testing"

	"etchhouse/api"
	"etchhouse/drill"
)

// D6: tools and jobs as a text, and back.
func TestText(t *testing.T) {
	long := strings.Repeat("x", api.MaxName)
	for _, l := range []struct{ what, bits, jobs, want string }{
		{"nothing", "", "", ""},
		{"a tool", "a 10 2 3", "", "tool a 10 2 3\n"},
		{"a job without holes", "a 10 2 3 | b 1 1 0", "b", "tool a 10 2 3\ntool b 1 1 0\njob b\n"},
		{"too few bits", "a 10 2 0", "a 0,0,1,1", "tool a 10 2 0\njob a\nhole 0 0 1 1 -\n"},
		{"holes in their order", "a 10 2 3", "a 5,-6,7,8,p 5,-6,7,8,p -1,0,2,3", "tool a 10 2 3\njob a\nhole 5 -6 7 8 p\nhole 5 -6 7 8 p\nhole -1 0 2 3 -\n"},
		{"jobs in their order", "a 1 1 1 | b 2 2 2 | c 3 3 3", "c 1,2,3,4 | b | a 5,6,7,8,p", "tool a 1 1 1\ntool b 2 2 2\ntool c 3 3 3\njob c\nhole 1 2 3 4 -\njob b\njob a\nhole 5 6 7 8 p\n"},
		{"all at their limits", long + " 10000 2000 1000", long + " 1000000,-1000000,10000,100000,p -1000000,1000000,1,1", "tool " + long + " 10000 2000 1000\njob " + long + "\nhole 1000000 -1000000 10000 100000 p\nhole -1000000 1000000 1 1 -\n"},
		{"names like words of a text", "- 1 1 1 | 0 2 2 2 | hole 4 4 4 | job 5 5 5 | p 6 6 6 | tool 7 7 7", "tool 1,1,1,1 | hole | - | job", "tool - 1 1 1\ntool 0 2 2 2\ntool hole 4 4 4\ntool job 5 5 5\ntool p 6 6 6\ntool tool 7 7 7\njob tool\nhole 1 1 1 1 -\njob hole\njob -\njob job\n"},
	} {
		text, f := drill.Text(bits(l.bits), jobs(l.jobs))
		wantGood(t, l.what, text, f, l.want)
		tools, j, line, f := drill.Read(text)
		wantGood(t, l.what, tools, f, bits(l.bits))
		want(t, l.what, j, jobs(l.jobs))
		want(t, l.what, line, 0)
	}
}

// D6: Text has the faults of CheckJobs.
func TestFaultsOfText(t *testing.T) {
	for _, l := range []struct {
		bits, jobs string
		want       api.Fault
	}{
		{"a/b 1 1 1", "", api.ErrName}, {"a 0 1 1", "", api.ErrRange}, {"b 1 1 1 | a 1 1 1", "", api.ErrOrder},
		{"a 1 1 1", "b", api.ErrNone}, {"a 1 1 1", "a | a", api.ErrTwice}, {"a 1 1 1", "a 0,0,0,0", api.ErrRange},
	} {
		text, f := drill.Text(bits(l.bits), jobs(l.jobs))
		wantWrong(t, l.bits+" / "+l.jobs, f, l.want, text)
	}
	text, f := drill.Text(manyBits(api.MaxBits+1), nil)
	wantWrong(t, "too many tools", f, api.ErrLarge, text)
	text, f = drill.Text([]api.Bit{{Name: strings.Repeat("x", api.MaxDrillText), Size: 1, Life: 1}}, nil)
	wantWrong(t, "before ErrLarge", f, api.ErrName, text)
}

// D6: the longest text that there can be is shorter than MaxDrillText.
func TestLongestText(t *testing.T) {
	tools, l := manyBits(api.MaxBits), row(api.MaxHoles/api.MaxBits)
	for i := range tools {
		tools[i] = api.Bit{Name: tools[i].Name + strings.Repeat("z", api.MaxName-3), Size: api.MaxHoleSize, Life: api.MaxHoles, Stack: api.MaxStackOf}
	}
	for i := range l {
		l[i] = api.Hole{At: point(-api.MaxAt, -api.MaxAt), Size: api.MaxHoleSize, Depth: api.MaxDeep, Plated: i%2 == 0}
	}
	j := withHoles(tools, l)
	text, f := drill.Text(tools, j)
	wantFault(t, "the longest one", f, api.OK)
	if len(text) > api.MaxDrillText {
		t.Errorf("%d bytes", len(text))
	}
	tools2, j2, line, f := drill.Read(text)
	wantGood(t, "the longest one", tools2, f, tools)
	want(t, "the longest one", j2, j)
	want(t, "the longest one", line, 0)
}

// D6: texts with as many bytes as can be, and one more.
func TestLongTexts(t *testing.T) {
	const tool, rest = "tool ", " 1 1 1\n"
	text := tool + strings.Repeat("x", api.MaxDrillText-len(tool)-len(rest)) + rest
	tools, j, line, f := drill.Read(text)
	wantWrong(t, "a long name", f, api.ErrName, tools, j, line)
	for _, longer := range []string{"x" + text, text + "\n", strings.Repeat("x", api.MaxDrillText+1), strings.Repeat("job a\n", api.MaxDrillText)} {
		tools, j, line, f := drill.Read(longer)
		wantWrong(t, "a text that is too long", f, api.ErrLarge, tools, j, line)
	}
	tools, j, line, f = drill.Read(strings.Repeat("x", api.MaxDrillText))
	wantWrong(t, "no line, but not too long", f, api.ErrSyntax, tools, j)
	want(t, "no line, but not too long", line, 1)
}

// D6: lines that cannot be read, with their numbers.
func TestRead(t *testing.T) {
	for _, l := range []struct {
		text string
		line int
	}{
		{"", 0}, {"tool a 1 1 1\n", 0}, {"tool a 1 1 0\ntool b 2 2 2\njob b\njob a\nhole 0 0 1 1 -\nhole -1 -20 1 1 p\n", 0},
		{"\n", 1}, {" \n", 1}, {"x\n", 1}, {"x", 1}, {"tool a 1 1 1", 1}, {"tool a 1 1 1\n\n", 2}, {"tool a 1 1 1\njob a", 2}, {"tool a 1 1 1\njob a\nhole 0 0 1 1 -", 3}, {"tool a 1 1 1\n ", 2},
		// words of a line
		{"tool\n", 1}, {"tool a\n", 1}, {"tool a 1\n", 1}, {"tool a 1 1\n", 1}, {"tool a 1 1 1 1\n", 1}, {"tool 1 1 1\n", 1}, {"Tool a 1 1 1\n", 1}, {"tools a 1 1 1\n", 1}, {"job\n", 1}, {"job a b\n", 1}, {"Job a\n", 1},
		{"tool a 1 1 1\njob a\nhole\n", 3}, {"tool a 1 1 1\njob a\nhole 0 0 1 1\n", 3}, {"tool a 1 1 1\njob a\nhole 0 0 1 1 - -\n", 3}, {"tool a 1 1 1\njob a\nhole 0 0 1 -\n", 3}, {"tool a 1 1 1\njob a\nHole 0 0 1 1 -\n", 3},
		// single blanks
		{"tool  a 1 1 1\n", 1}, {" tool a 1 1 1\n", 1}, {"tool a 1 1 1 \n", 1}, {"tool a 1  1 1\n", 1}, {"tool\ta 1 1 1\n", 1}, {"tool a 1 1 1\r\n", 1}, {"job \n", 1}, {"job a \n", 1}, {" job a\n", 1}, {"job  a\n", 1},
		{"tool a 1 1 1\njob a\nhole 0 0 1 1 \n", 3}, {"tool a 1 1 1\njob a\nhole 0  1 1 -\n", 3}, {"tool a 1 1 1\njob a\nhole 0 0 1 1 - \n", 3}, {"tool a 1 1 1\njob a\n hole 0 0 1 1 -\n", 3},
		// what cannot stand there
		{"job a\ntool a 1 1 1\n", 2}, {"tool a 1 1 1\njob a\nhole 0 0 1 1 -\ntool b 1 1 1\n", 4}, {"tool a 1 1 1\nhole 0 0 1 1 -\n", 2}, {"hole 0 0 1 1 -\n", 1}, {"hole 0 0 1 1 -\njob a\n", 1}, {"tool a 1 1 1\n\njob a\n", 2},
		// the first one of several
		{"x\ny\n", 1}, {"tool a 1 1 1\nx\ny", 2}, {"tool a 0 0 0\ntool a 0 0 0\nx\n", 3}, {"tool a 1 1 1\njob b\nx\n", 3}, {"tool a 1 1 1\njob a\njob a\nhole 9999999 0 0 0 -\nx\n", 5},
		// words are rows of certain bytes
		{"tool \x7f 1 1 1\n", 1}, {"tool \x00 1 1 1\n", 1}, {"tool \xff 1 1 1\n", 1}, {"tool é 1 1 1\n", 1}, {"job \x7f\n", 1}, {"job a\x1fb\n", 1}, {"job \x80\n", 1},
		// PLATED
		{"tool a 1 1 1\njob a\nhole 0 0 1 1 P\n", 3}, {"tool a 1 1 1\njob a\nhole 0 0 1 1 --\n", 3}, {"tool a 1 1 1\njob a\nhole 0 0 1 1 pp\n", 3}, {"tool a 1 1 1\njob a\nhole 0 0 1 1 0\n", 3},
	} {
		tools, j, line, f := drill.Read(l.text)
		want(t, fmt.Sprintf("%q", l.text), line, l.line)
		if l.line > 0 {
			wantWrong(t, fmt.Sprintf("%q", l.text), f, api.ErrSyntax, tools, j)
			continue
		}
		wantFault(t, fmt.Sprintf("%q", l.text), f, api.OK)
		again, f := drill.Text(tools, j)
		wantGood(t, fmt.Sprintf("%q", l.text), again, f, l.text)
	}
}

// D6: numbers, at each place where one can stand.
func TestNumbers(t *testing.T) {
	places := []string{"tool a # 1 1\njob a\nhole 0 0 1 1 -\n", "tool a 1 # 1\njob a\nhole 0 0 1 1 -\n", "tool a 1 1 #\njob a\nhole 0 0 1 1 -\n",
		"tool a 1 1 1\njob a\nhole # 0 1 1 -\n", "tool a 1 1 1\njob a\nhole 0 # 1 1 -\n", "tool a 1 1 1\njob a\nhole 0 0 # 1 -\n", "tool a 1 1 1\njob a\nhole 0 0 1 # -\n"}
	for place, text := range places {
		line, isSigned := 1, place == 3 || place == 4
		if place > 2 {
			line = 3
		}
		for word, isNumber := range map[string]bool{
			"0": true, "7": true, "10": true, "999999999": true, "-1": isSigned, "-999999999": isSigned,
			"": false, "-": false, "-0": false, "00": false, "01": false, "-01": false, "--1": false, "+1": false, "1.0": false, "1e3": false, "x": false, "1x": false, "0x1": false, "1_0": false, "1000000000": false, "-1000000000": false, "18446744073709551617": false, "٣": false,
		} {
			what := fmt.Sprintf("%q at place %d", word, place)
			tools, j, got, f := drill.Read(strings.Replace(text, "#", word, 1))
			if !isNumber {
				wantWrong(t, what, f, api.ErrSyntax, tools, j)
				want(t, what, got, line)
				continue
			}
			want(t, what, got, 0)
			if f == api.ErrSyntax {
				t.Errorf("%s: is no number", what)
			}
		}
	}
}

// D6: Read has the faults of CheckJobs, behind those of all lines, and tells no line beside them.
func TestFaultsOfRead(t *testing.T) {
	for text, expected := range map[string]api.Fault{
		"tool a/b 1 1 1\n": api.ErrName, "tool . 1 1 1\n": api.ErrName, "tool " + strings.Repeat("x", api.MaxName+1) + " 1 1 1\n": api.ErrName,
		"tool a 0 1 1\n": api.ErrRange, "tool a 1 0 1\n": api.ErrRange, "tool a 1 1 1001\n": api.ErrRange,
		"tool b 1 1 1\ntool a 1 1 1\n": api.ErrOrder, "tool a 1 1 1\ntool a 1 1 1\n": api.ErrOrder,
		"job a\n": api.ErrNone, "tool a 1 1 1\njob b\n": api.ErrNone, "job ?\n": api.ErrNone,
		"tool a 1 1 1\njob a\njob a\n":                                                        api.ErrTwice,
		"tool a 1 1 1\njob a\nhole 1000001 0 1 1 -\n":                                         api.ErrRange,
		"tool a 1 1 1\njob a\nhole 0 0 1 0 -\n":                                               api.ErrRange,
		"tool a 1 1 1\n" + strings.Repeat("job a\n", 101):                                     api.ErrLarge,
		"tool a 1 1 1\njob a\n" + holeLines(2001):                                             api.ErrLarge,
		"tool a 1 1 1\ntool b 1 1 1\njob a\n" + holeLines(1001) + "job b\n" + holeLines(1000): api.ErrLarge,
	} {
		tools, j, line, f := drill.Read(text)
		wantWrong(t, fmt.Sprintf("%.200q", text), f, expected, tools, j, line)
	}
	tools, j, line, f := drill.Read("tool a 1 1 1\njob a\n" + holeLines(2000))
	wantGood(t, "as many holes as can be", []int{len(tools), len(j), len(j[0].Holes), line}, f, []int{1, 1, 2000, 0})
}

func holeLines(many int) string {
	return strings.Repeat("hole 0 0 1 1 -\n", many)
}

// D6: random texts hold against a pattern for each line; what can be read is written just so.
func TestRandomTexts(t *testing.T) {
	const count = ` (0|[1-9][0-9]{0,8})`
	const at = ` (0|-?[1-9][0-9]{0,8})`
	tool, job, hole := regexp.MustCompile(`^tool [!-~]+`+count+count+count+`\n$`), regexp.MustCompile(`^job [!-~]+\n$`), regexp.MustCompile(`^hole`+at+at+count+count+` [p-]\n$`)
	words := []string{"tool", "job", "hole", "tool c 3 3 3\n", "job b\n", "job c\n", "hole 1 -2 3 4 p\n", " ", " ", "\n", "\n", "-", "0", "1", "20", " 5", "p", "x", "\t"}
	good := 0
	tried(t, 30000, func(rnd *rand.Rand) {
		text := ""
		if rnd.IntN(3) > 0 {
			text = "tool a 10 20 30\ntool b 1 2 3\njob a\nhole 10 -20 30 40 -\n"
		}
		for range rnd.IntN(5) {
			at := rnd.IntN(len(text) + 1)
			text = text[:at] + words[rnd.IntN(len(words))] + text[at:]
		}
		expected, hasJobs := 0, false
		for i, line := range strings.SplitAfter(text, "\n") {
			switch {
			case line == "": // behind the last one
			case tool.MatchString(line) && !hasJobs, hole.MatchString(line) && hasJobs:
			case job.MatchString(line):
				hasJobs = true
			case expected == 0:
				expected = i + 1
			}
		}
		tools, j, line, f := drill.Read(text)
		want(t, fmt.Sprintf("%q", text), line, expected)
		want(t, fmt.Sprintf("%q", text), f == api.ErrSyntax, expected > 0)
		if f != api.OK {
			wantWrong(t, fmt.Sprintf("%q", text), f, f, tools, j)
			return
		}
		good++
		again, f := drill.Text(tools, j)
		wantGood(t, fmt.Sprintf("%q", text), again, f, text)
	})
	if good < 500 {
		t.Errorf("%d texts can be read", good)
	}
}

// D6: random tools and jobs are read as they are written.
func TestTextAndBack(t *testing.T) {
	tried(t, 1000, func(rnd *rand.Rand) {
		tools := randomBits(rnd, rnd.IntN(5), api.MaxHoleSize)
		j := randomJobs(rnd, tools)
		what := fmt.Sprintf("%+v %+v", tools, j)
		text, f := drill.Text(tools, j)
		wantFault(t, what, f, api.OK)
		tools2, j2, line, f := drill.Read(text)
		wantGood(t, what, tools2, f, tools)
		want(t, what, j2, j)
		want(t, what, line, 0)
	})
}
