package plot

import (
	"strconv"
	"strings"

	"etchhouse/api"
	"etchhouse/texts"
)

// Text writes a plot.
func Text(p api.Plot) (string, api.Fault) {
	if f := CheckPlot(p); f != api.OK {
		return "", f
	}
	w := writer{fits: true}
	w.line("unit", p.Unit)
	for _, t := range p.Tools {
		var numbers []int
		for _, r := range t.Rects {
			numbers = append(numbers, r.X0, r.Y0, r.X1, r.Y1)
		}
		w.line("tool "+t.Name, numbers...)
	}
	w.steps(p.Steps)
	if !w.fits {
		return "", api.ErrLarge
	}
	return w.text.String(), api.OK
}

// writer writes lines as long as they fit into a text.
type writer struct {
	text strings.Builder
	fits bool
}

func (w *writer) line(words string, numbers ...int) {
	if !w.fits {
		return
	}
	w.text.WriteString(words)
	for _, n := range numbers {
		w.text.WriteByte(' ')
		w.text.WriteString(strconv.Itoa(n))
	}
	w.text.WriteByte('\n')
	w.fits = w.text.Len() <= api.MaxPlot
}

func (w *writer) steps(l []api.PlotStep) {
	for _, s := range l {
		switch s.Kind {
		case api.StepDark:
			w.line("dark")
		case api.StepClear:
			w.line("clear")
		case api.StepUse:
			w.line("use " + s.Name)
		case api.StepMove:
			w.line("move", s.At.X, s.At.Y)
		case api.StepFlash:
			w.line("flash", s.At.X, s.At.Y)
		case api.StepLine:
			w.line("line", s.At.X, s.At.Y)
		case api.StepArea:
			w.area(s.Points)
		case api.StepRepeat:
			w.line("repeat", s.NX, s.NY, s.At.X, s.At.Y)
			w.steps(s.Steps)
			w.line("done")
		}
	}
}

func (w *writer) area(points []api.Point) {
	var numbers []int
	for _, p := range points {
		numbers = append(numbers, p.X, p.Y)
	}
	w.line("area", numbers...)
}

// Read reads a plot as Text writes it; the number is that of the line that cannot be read.
func Read(text string) (api.Plot, int, api.Fault) {
	if len(text) > api.MaxPlot {
		return api.Plot{}, 0, api.ErrLarge
	}
	var r reader
	if line := texts.Lines(text, r.line); line > 0 {
		return api.Plot{}, line, api.ErrSyntax
	}
	if !r.unit || len(r.open) > 0 {
		return api.Plot{}, strings.Count(text, "\n") + 1, api.ErrSyntax
	}
	if f := CheckPlot(r.plot); f != api.OK {
		return api.Plot{}, 0, f
	}
	return r.plot, 0, api.OK
}

// reader is what is read so far.
type reader struct {
	plot api.Plot
	unit bool           // whether it is read
	open []api.PlotStep // repeats that still have no done, each within the one before it
}

// line reads the words of a line, and says whether it can stand there.
func (r *reader) line(words []string) bool {
	first, words := words[0], words[1:]
	switch {
	case !r.unit || first == "unit":
		return r.readUnit(first, words)
	case first == "tool":
		return r.readTool(words)
	case first == "done":
		return r.readDone(words)
	case first == "repeat":
		return r.readRepeat(words)
	}
	s, ok := readStep(first, words)
	r.add(s)
	return ok
}

func (r *reader) readUnit(first string, words []string) bool {
	numbers, ok := texts.Numbers(words)
	if r.unit || first != "unit" || !ok || len(numbers) != 1 {
		return false
	}
	r.unit, r.plot.Unit = true, numbers[0]
	return true
}

func (r *reader) readTool(words []string) bool {
	if len(r.plot.Steps) > 0 || len(r.open) > 0 || len(words) == 0 || !texts.IsRow(words[0]) {
		return false
	}
	numbers, ok := texts.Numbers(words[1:])
	if !ok || len(numbers) == 0 || len(numbers)%4 != 0 {
		return false
	}
	tool := api.PlotTool{Name: words[0]}
	for ; len(numbers) > 0; numbers = numbers[4:] {
		tool.Rects = append(tool.Rects, api.Rect{X0: numbers[0], Y0: numbers[1], X1: numbers[2], Y1: numbers[3]})
	}
	r.plot.Tools = append(r.plot.Tools, tool)
	return true
}

func (r *reader) readRepeat(words []string) bool {
	numbers, ok := texts.Numbers(words)
	if !ok || len(numbers) != 4 {
		return false
	}
	r.open = append(r.open, api.PlotStep{
		Kind: api.StepRepeat, NX: numbers[0], NY: numbers[1], At: api.Point{X: numbers[2], Y: numbers[3]},
	})
	return true
}

func (r *reader) readDone(words []string) bool {
	last := len(r.open) - 1
	if last < 0 || len(words) > 0 {
		return false
	}
	s := r.open[last]
	r.open = r.open[:last]
	r.add(s)
	return true
}

// add puts a step behind those of the innermost repeat that is open, or of the plot.
func (r *reader) add(s api.PlotStep) {
	steps := &r.plot.Steps
	if last := len(r.open) - 1; last >= 0 {
		steps = &r.open[last].Steps
	}
	*steps = append(*steps, s)
}

// readStep reads a step other than a repeat.
func readStep(first string, words []string) (api.PlotStep, bool) {
	switch first {
	case "dark":
		return api.PlotStep{Kind: api.StepDark}, len(words) == 0
	case "clear":
		return api.PlotStep{Kind: api.StepClear}, len(words) == 0
	case "use":
		if len(words) != 1 {
			return api.PlotStep{}, false
		}
		return api.PlotStep{Kind: api.StepUse, Name: words[0]}, texts.IsRow(words[0])
	case "move":
		return readPlace(api.StepMove, words)
	case "flash":
		return readPlace(api.StepFlash, words)
	case "line":
		return readPlace(api.StepLine, words)
	case "area":
		points, ok := readPoints(words)
		return api.PlotStep{Kind: api.StepArea, Points: points}, ok
	}
	return api.PlotStep{}, false
}

func readPlace(kind int, words []string) (api.PlotStep, bool) {
	points, ok := readPoints(words)
	if !ok || len(points) != 1 {
		return api.PlotStep{}, false
	}
	return api.PlotStep{Kind: kind, At: points[0]}, true
}

func readPoints(words []string) ([]api.Point, bool) {
	numbers, ok := texts.Numbers(words)
	if !ok || len(numbers)%2 != 0 {
		return nil, false
	}
	var points []api.Point
	for ; len(numbers) > 0; numbers = numbers[2:] {
		points = append(points, api.Point{X: numbers[0], Y: numbers[1]})
	}
	return points, true
}
