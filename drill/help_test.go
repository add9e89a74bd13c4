package drill_test

import (
	"fmt"
	"math/rand/v2"
	"reflect"
	"slices"
	"strconv"
	"strings"
	"testing"

	"etchhouse/api"
)

func wantFault(t *testing.T, what string, got, want api.Fault) {
	t.Helper()
	if got != want {
		t.Errorf("%.2000s: fault %d, want %d", what, got, want)
	}
}

// want holds results against each other; nil and an empty list are the same.
func want(t *testing.T, what string, got, want any) {
	t.Helper()
	if want == nil {
		want = []int{}
	}
	if g, w := fmt.Sprintf("%+v", got), fmt.Sprintf("%+v", want); g != w {
		t.Errorf("%.5000s:\ngot  %.2000s\nwant %.2000s", what, g, w)
	}
}

// wantGood holds a result that comes without a fault.
func wantGood(t *testing.T, what string, got any, f api.Fault, wanted any) {
	t.Helper()
	wantFault(t, what, f, api.OK)
	want(t, what, got, wanted)
}

// wantWrong holds a fault, and that the results that come with it are zero.
func wantWrong(t *testing.T, what string, f, wanted api.Fault, got ...any) {
	t.Helper()
	wantFault(t, what, f, wanted)
	for _, one := range got {
		if !isZero(one) {
			t.Errorf("%.2000s: got %.500s beside a fault", what, fmt.Sprintf("%+v", one))
		}
	}
}

func isZero(got any) bool {
	v := reflect.ValueOf(got)
	if v.Kind() == reflect.Slice {
		return v.Len() == 0
	}
	return v.IsZero()
}

// tried calls a function many times with a source of numbers.
func tried(t *testing.T, times int, f func(rnd *rand.Rand)) {
	t.Helper()
	rnd := rand.New(rand.NewPCG(8, 8))
	for range times {
		if f(rnd); t.Failed() {
			return
		}
	}
}

func number(word string) int {
	n, err := strconv.Atoi(word)
	if err != nil {
		panic(err)
	}
	return n
}

func point(x, y int) api.Point {
	return api.Point{X: x, Y: y}
}

// points reads "X,Y X,Y ..".
func points(text string) []api.Point {
	var out []api.Point
	for _, word := range strings.Fields(text) {
		x, y, _ := strings.Cut(word, ",")
		out = append(out, point(number(x), number(y)))
	}
	return out
}

// holes reads "X,Y,SIZE,DEPTH X,Y,SIZE,DEPTH,p ..".
func holes(text string) []api.Hole {
	var out []api.Hole
	for _, word := range strings.Fields(text) {
		l := strings.Split(word, ",")
		out = append(out, api.Hole{At: point(number(l[0]), number(l[1])), Size: number(l[2]), Depth: number(l[3]), Plated: len(l) > 4})
	}
	return out
}

// bits reads "NAME SIZE LIFE STACK | NAME ..".
func bits(text string) []api.Bit {
	var out []api.Bit
	for _, line := range lines(text) {
		l := strings.Fields(line)
		out = append(out, api.Bit{Name: l[0], Size: number(l[1]), Life: number(l[2]), Stack: number(l[3])})
	}
	return out
}

// jobs reads "TOOL X,Y,SIZE,DEPTH .. | TOOL ..".
func jobs(text string) []api.Job {
	var out []api.Job
	for _, line := range lines(text) {
		tool, rest, _ := strings.Cut(strings.TrimSpace(line), " ")
		out = append(out, api.Job{Tool: tool, Holes: holes(rest)})
	}
	return out
}

// lines of a text with | between; an empty text has none.
func lines(text string) []string {
	if text == "" {
		return nil
	}
	return strings.Split(text, "|")
}

// row is so many holes side by side.
func row(many int) []api.Hole {
	var out []api.Hole
	for x := range many {
		out = append(out, api.Hole{At: point(x, 0), Size: 1, Depth: 1})
	}
	return out
}

// manyBits have names of three letters, in order.
func manyBits(many int) []api.Bit {
	var out []api.Bit
	for i := range many {
		name := []byte{'a' + byte(i/26/26), 'a' + byte(i/26%26), 'a' + byte(i%26)}
		out = append(out, api.Bit{Name: string(name), Size: 1 + i, Life: 1, Stack: 1})
	}
	return out
}

// withHoles gives each tool a job with the same holes.
func withHoles(t []api.Bit, l []api.Hole) []api.Job {
	var out []api.Job
	for _, one := range t {
		out = append(out, api.Job{Tool: one.Name, Holes: l})
	}
	return out
}

// shuffled copies a list in another order.
func shuffled[T any](rnd *rand.Rand, l []T) []T {
	l = slices.Clone(l)
	rnd.Shuffle(len(l), func(i, j int) { l[i], l[j] = l[j], l[i] })
	return l
}

// roomy copies a list; there is spare capacity behind it, in which something stands.
func roomy[T any](l []T) []T {
	return append(slices.Clone(l), l...)[:len(l)]
}
