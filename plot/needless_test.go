package plot

import (
	"math/rand/v2"
	"slices"
	"strings"
	"testing"

	"etchhouse/api"
)

// P5: steps without which the image is the same.
func TestNeedless(t *testing.T) {
	const tools = "unit 1; tool h 0 0 1 1 5 0 6 1; tool t 0 0 1 1; tool u 0 0 2 2"
	for _, c := range []struct {
		what, plot string
		want       []int
	}{
		{"nothing", "use t; dark; clear; move 1 1", nil},
		{"all are needed", "use t; flash 0 0; line 3 0; area 5 5 6 5 6 6 5 6; clear; flash 1 0", nil},
		{"two times the same", "use t; flash 0 0; flash 0 0", []int{1, 2}},
		{"dark where it is dark", "use u; flash 0 0; use t; flash 1 1", []int{3}},
		{"dark where it becomes dark", "use t; flash 1 1; use u; flash 0 0", []int{1}},
		{"covered by several", "area 0 0 2 0 2 1 0 1; area 0 0 1 0 1 1 0 1; area 1 0 3 0 3 1 1 1", []int{0, 1}},
		{"clear where nothing is", "clear; area 0 0 1 0 1 1 0 1; dark; area 2 0 3 0 3 1 2 1", []int{1}},
		{"cleared later", "use t; flash 0 0; flash 5 5; clear; flash 0 0", []int{1}},
		{"clear, and dark again", "use u; flash 0 0; clear; use t; flash 1 1; dark; flash 1 1", []int{4}},
		{"clear, and dark again in parts", "area 0 0 3 0 3 1 0 1; clear; area 0 0 2 0 2 1 0 1; dark; area 0 0 1 0 1 1 0 1", nil},
		{"a place for a line", "use t; flash 0 0; line 5 0", nil},
		{"a place for a line, from another one", "use t; move 0 0; flash 0 0; line 5 0", []int{2}},
		{"a place for a line that would not be along an axis", "use t; move 1 1; line 3 1; flash 2 1; line 2 5", nil},
		{"a place for a line that would be the same, from further", "use t; move 0 0; line 3 0; line 6 0; line 6 3", []int{2}},
		{"a line back", "use t; move 0 0; line 3 0; line 0 0", []int{3}},
		{"a line back that goes on", "use t; move 0 0; line 3 0; line 1 0; line 1 4", nil},
		{"a repeat", "use t; repeat 3 1 2 0; flash 0 0; done; use u; flash 0 0; flash 2 0; flash 4 0", []int{1}},
		{"a repeat that draws nothing", "repeat 3 1 2 0; use t; move 0 0; clear; done", nil},
		{"a repeat that draws within another one", "use t; repeat 1 1 0 0; repeat 2 1 0 0; flash 0 0; done; done; flash 0 0", []int{1, 2}},
		{"a repeat that changes the tool", "use t; flash 0 0; repeat 1 1 0 0; flash 0 0; use u; done; flash 5 5", []int{1}},
		{"a repeat that changes the darkness", "use t; flash 0 0; repeat 1 1 0 0; flash 0 0; clear; done; flash 0 0; dark; flash 9 9", []int{1}},
		{"a repeat that changes what is not needed", "use t; flash 0 0; repeat 1 1 0 0; flash 0 0; use u; clear; move 7 7; done; use t; dark; flash 5 5", []int{1, 2}},
		{"a repeat that moves the place", "use t; flash 0 0; repeat 1 1 0 0; flash 0 0; move 7 7; done; line 7 9", []int{1}},
		{"areas that go around nothing", "area 0 0 1 0 0 0 1 0", []int{0}},
		{"the first of all without which there is no tool", "repeat 1 1 0 0; use t; flash 0 0; done; flash 0 0", []int{1}},
		{"parts far from one another", "use h; flash 0 0; use t; flash 0 0; flash 5 0", []int{1, 3, 4}},
	} {
		got, f := Needless(plotOf(t, tools+"; "+c.plot))
		wantFault(t, c.what, f, api.OK)
		want(t, c.what, got, c.want)
		want(t, c.what+", by the model", got, modelNeedless(t, plotOf(t, tools+"; "+c.plot)))
	}
}

// P5: without a step that seems needless there would be too many rectangles on the way.
func TestNeedlessOfLargeImages(t *testing.T) {
	row := func(n int) api.PlotStep { return repeat(100, n, 2, 2, flash(0, 0)) }
	for _, c := range []struct {
		what  string
		steps []api.PlotStep
		want  []int
	}{
		{"at the bound", []api.PlotStep{use("t"), row(20), block(0, 0, 200, 200)}, []int{1}},
		{"the bound is kept by a step", []api.PlotStep{use("t"), flash(-9, 0), clears(), flash(-9, 0), dark(), row(20), block(-20, 0, 200, 200)}, []int{1, 5}},
		{"far from the bound", []api.PlotStep{use("t"), flash(-9, 0), clears(), flash(-9, 0), dark(), row(19), block(-20, 0, 200, 200)}, []int{1, 3, 5}},
		{"the bound is kept for two steps", []api.PlotStep{use("t"), flash(-9, 0), clears(), flash(-9, 0), dark(), row(10), repeat(100, 10, 2, 2, flash(0, 20)), block(-20, 0, 200, 200), flash(0, 0)}, []int{1, 5, 6, 8}},
		{"the bound is kept where nothing is seen of it", []api.PlotStep{use("t"), row(20), clears(), block(0, 0, 200, 1), dark(), row(1), block(0, 0, 200, 200)}, []int{1, 3, 5}},
	} {
		got, f := Needless(onlySteps(c.steps...))
		wantFault(t, c.what, f, api.OK)
		want(t, c.what, got, modelNeedless(t, onlySteps(c.steps...)))
		want(t, c.what, got, c.want)
	}
	for _, c := range []struct {
		what  string
		count int // of rectangles before all others
		steps []api.PlotStep
		want  []int
	}{
		{"a line from elsewhere", api.MaxRects - 1, []api.PlotStep{use("t"), move(50, 1), flash(0, 1), line(0, 1), block(-40, -40, 60, 4100)}, []int{1, 4, 5}},
		{"a line from elsewhere is too much", api.MaxRects, []api.PlotStep{use("t"), move(50, 1), flash(0, 1), line(0, 1), block(-40, -40, 60, 4100)}, []int{1, 5}},
		{"what differs becomes less", api.MaxRects - 2, []api.PlotStep{use("two"), flash(-20, 0), clears(), flash(-20, 0), use("t"), flash(-20, 0), dark(), flash(-30, 0), block(-40, -40, 60, 4100)}, []int{1, 3, 5, 7, 9}},
		{"what differs becomes less, but not enough", api.MaxRects - 2, []api.PlotStep{use("two"), flash(-20, 0), clears(), flash(-20, 0), use("t"), flash(-20, 0), dark(), flash(-30, 0), flash(-40, 0), block(-40, -40, 60, 4100)}, []int{1, 3, 7, 9, 10}},
	} {
		p := onlySteps(append([]api.PlotStep{use("column"), flash(0, 0)}, c.steps...)...)
		p.Tools = []api.PlotTool{tool("column", column(0, c.count)...), p.Tools[0], tool("two", rect(0, 0, 1, 1), rect(5, 0, 6, 1))}
		got, f := Needless(p)
		wantFault(t, c.what, f, api.OK)
		want(t, c.what, got, modelNeedless(t, p))
		want(t, c.what, got, c.want)
	}
}

// modelNeedless draws the whole plot without each step; images are those of Image.
func modelNeedless(t *testing.T, p api.Plot) []int {
	t.Helper()
	image, f := Image(p)
	wantFault(t, "image", f, api.OK)
	var out []int
	for i := range p.Steps {
		q := p
		q.Steps = slices.Concat(p.Steps[:i], p.Steps[i+1:])
		other, f := Image(q)
		if f == api.OK && slices.Equal(image, other) && isDrawn(p.Steps[i]) {
			out = append(out, i)
		}
	}
	return out
}

func isDrawn(s api.PlotStep) bool {
	return s.Kind >= api.StepFlash && s.Kind <= api.StepArea || slices.ContainsFunc(s.Steps, isDrawn)
}

// P5: random plots.
func TestRandomNeedless(t *testing.T) {
	images, found := 0, 0
	tried(t, 6000, func(rnd *rand.Rand) {
		p := randomPlot(rnd)
		if _, f := modelOf(p); f != api.OK {
			return
		}
		got, f := Needless(p)
		wantFault(t, textOf(p), f, api.OK)
		want(t, strings.Join(linesOf(p.Steps), "; "), got, modelNeedless(t, p))
		images++
		found += len(got)
	})
	if images < 2000 || found < 2000 {
		t.Errorf("%d images, %d steps", images, found)
	}
}

// P5: plots at the bound.
func TestLongNeedless(t *testing.T) {
	l := []api.PlotStep{use("t")}
	for i := range 1990 {
		l = append(l, flash(i%50*2, i/50*2))
	}
	got, f := Needless(onlySteps(l...))
	wantFault(t, "flashes", f, api.OK)
	want(t, "flashes", len(got), 0)

	got, f = Needless(onlySteps(append(l, block(0, 0, 100, 100))...))
	wantFault(t, "flashes that are covered", f, api.OK)
	want(t, "flashes that are covered", len(got), 1990)

	got, f = Needless(onlySteps(append(l, l[500:1500]...)...))
	wantFault(t, "flashes that come again", f, api.OK)
	want(t, "flashes that come again", len(got), 2000)
}

// P5: random plots whose images are at the bound.
func TestRandomNeedlessAtTheBound(t *testing.T) {
	images, large := 0, 0
	tried(t, 120, func(rnd *rand.Rand) {
		l := []api.PlotStep{use("c"), flash(0, 0), use("t")}
		for range 12 {
			x, y := rnd.IntN(6)-3, rnd.IntN(16)-4
			switch rnd.IntN(6) {
			case 0:
				l = append(l, dark())
			case 1:
				l = append(l, clears())
			case 2:
				l = append(l, block(x, y, x+1+rnd.IntN(5), y+1+rnd.IntN(3)))
			case 3:
				l = append(l, move(x, y), line(x+rnd.IntN(4), y))
			default:
				l = append(l, flash(x, y))
			}
		}
		if rnd.IntN(2) == 0 {
			l = append(l, dark(), block(-10, -10, 10, 30))
		}
		p := onlySteps(l...)
		p.Tools = append([]api.PlotTool{tool("c", column(0, api.MaxRects-rnd.IntN(6))...)}, p.Tools...)
		got, f := Needless(p)
		if f == api.ErrLarge {
			large++
			return
		}
		wantFault(t, "fault", f, api.OK)
		want(t, strings.Join(linesOf(p.Steps), "; "), got, modelNeedless(t, p))
		images++
	})
	if images < 20 || large < 20 {
		t.Errorf("%d images, %d too large", images, large)
	}
}

// What is said to be the most that an image can have more is not too little.
func TestMostMore(t *testing.T) {
	bars := func(x, y, wide, high, many, far int) picture {
		var p picture
		for i := range many {
			r := []api.Rect{rect(x, y, x+wide, y+high)}
			if wide < high {
				r[0] = rect(x+i*far, y, x+i*far+wide, y+high)
			} else {
				r[0] = rect(x, y+i*far, x+wide, y+i*far+high)
			}
			p.draw(stroke{true, r[0], func() field { return gathered(r, inEither) }})
		}
		return p
	}
	for n := 1; n < 5; n++ {
		for m := 1; m < 5; m++ {
			a, b := bars(0, 0, 5, 2, n, 4), bars(10, -1, 1, 30, m, 2)
			more := combined(a.bands, b.bands, inOneAlone).count() - a.rects
			want(t, "bars beside one another", more, (2*n+1)*m)
			want(t, "bars beside one another at most", a.mostMore(b.bands), (2*n+1)*m)
		}
	}
	pictureOf := func(rnd *rand.Rand, many int) picture {
		var p picture
		for range many {
			x, y := rnd.IntN(20), rnd.IntN(20)
			r := []api.Rect{rect(x, y, x+1+rnd.IntN(6), y+1+rnd.IntN(4))}
			p.draw(stroke{rnd.IntN(3) > 0, r[0], func() field { return gathered(r, inEither) }})
		}
		return p
	}
	tried(t, 5000, func(rnd *rand.Rand) {
		a, b := pictureOf(rnd, 20), pictureOf(rnd, 1+rnd.IntN(4))
		more := combined(a.bands, b.bands, inOneAlone).count() - a.rects
		if most := a.mostMore(b.bands); more > most {
			t.Errorf("%d more, at most %d", more, most)
		}
	})
}
