package drill

import (
	"slices"
	"strconv"
	"strings"

	"etchhouse/api"
	"etchhouse/texts"
)

// Text writes tools and jobs.
func Text(t []api.Bit, j []api.Job) (string, api.Fault) {
	if f := CheckJobs(t, j); f != api.OK {
		return "", f
	}
	var text strings.Builder
	write := func(words ...string) {
		text.WriteString(strings.Join(words, " "))
		text.WriteByte('\n')
	}
	n := strconv.Itoa
	for _, one := range t {
		write("tool", one.Name, n(one.Size), n(one.Life), n(one.Stack))
	}
	for _, one := range j {
		write("job", one.Tool)
		for _, h := range one.Holes {
			write("hole", n(h.At.X), n(h.At.Y), n(h.Size), n(h.Depth), platedWord(h.Plated))
		}
	}
	if text.Len() > api.MaxDrillText { // no jobs within the other limits have so long a text
		return "", api.ErrLarge
	}
	return text.String(), api.OK
}

func platedWord(plated bool) string {
	if plated {
		return "p"
	}
	return "-"
}

// Read reads tools and jobs as Text writes them; the number is that of the line that cannot be read.
func Read(text string) ([]api.Bit, []api.Job, int, api.Fault) {
	if len(text) > api.MaxDrillText {
		return nil, nil, 0, api.ErrLarge
	}
	var r reader
	if line := texts.Lines(text, r.line); line > 0 {
		return nil, nil, line, api.ErrSyntax
	}
	if f := CheckJobs(r.tools, r.jobs); f != api.OK {
		return nil, nil, 0, f
	}
	return r.tools, r.jobs, 0, api.OK
}

// reader is what is read so far.
type reader struct {
	tools []api.Bit
	jobs  []api.Job
}

// line reads the words of a line, and says whether it can stand there.
func (r *reader) line(words []string) bool {
	first, words := words[0], words[1:]
	switch {
	case first == "tool" && len(words) == 4 && len(r.jobs) == 0:
		return r.tool(words)
	case first == "job" && len(words) == 1:
		r.jobs = append(r.jobs, api.Job{Tool: words[0]})
		return texts.IsRow(words[0])
	case first == "hole" && len(words) == 5 && len(r.jobs) > 0:
		return r.hole(words)
	}
	return false
}

func (r *reader) tool(words []string) bool {
	n, ok := counts(words[1:])
	if !ok || !texts.IsRow(words[0]) {
		return false
	}
	r.tools = append(r.tools, api.Bit{Name: words[0], Size: n[0], Life: n[1], Stack: n[2]})
	return true
}

func (r *reader) hole(words []string) bool {
	at, isPlace := texts.Numbers(words[:2])
	n, ok := counts(words[2:4])
	plated := words[4] == platedWord(true)
	if !isPlace || !ok || !plated && words[4] != platedWord(false) {
		return false
	}
	last := &r.jobs[len(r.jobs)-1]
	last.Holes = append(last.Holes, api.Hole{At: api.Point{X: at[0], Y: at[1]}, Size: n[0], Depth: n[1], Plated: plated})
	return true
}

// counts reads words that are all numbers without a sign.
func counts(words []string) ([]int, bool) {
	n, ok := texts.Numbers(words)
	return n, ok && slices.Min(n) >= 0
}
