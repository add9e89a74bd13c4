package route

import (
	"cmp"
	"math"
	"slices"

	"etchhouse/api"
)

// state is where a way has come: to a cell, and along what its last step along X or Y was, on which the price of a turn depends.
type state struct {
	cell int
	last axis
}

// A label is how far a state is: its cost times perCost, and the number of steps; so of ways of one cost the one with the fewest cells has the least label. No way takes as many steps as there are states, which are fewer than perCost.
const (
	perCost   = 1 << 17
	unreached = math.MaxInt
	tooDear   = unreached / perCost // the cost of what is not reached
)

// search finds the least labels from some cells on, from near to far. Cells to begin at can be added at any time: labels only become less.
type search struct {
	*maze
	costs  api.Costs
	labels [][axes]int // of states
	ahead  *queue
}

func (m *maze) search(c api.Costs) *search {
	s := &search{m, c, make([][axes]int, len(m.blocked)), newQueue()}
	for i := range s.labels {
		s.labels[i] = [axes]int{unreached, unreached, unreached}
	}
	return s
}

// begin lets ways begin at a cell, where they have cost so much already.
func (s *search) begin(cell, cost int) {
	s.reach(state{cell, alongLayer}, cost*perCost)
}

// reach notes that there is a way to a state, if it is better than those before.
func (s *search) reach(to state, label int) {
	if label < s.labels[to.cell][to.last] {
		s.labels[to.cell][to.last] = label
		s.ahead.put(label/perCost, to)
	}
}

func (s *search) label(at state) int {
	return s.labels[at.cell][at.last]
}

// cost is the least one of ways to a cell, as far as is known: tooDear, if none is.
func (s *search) cost(cell int) int {
	return slices.Min(s.labels[cell][:]) / perCost
}

// price is what a step adds to the label of a state, and along what the last step along X or Y is then.
func (s *search) price(from state, along axis) (int, axis) {
	cost, last := priced(s.costs, s.layer(from.cell), from.last, along)
	return cost*perCost + 1, last
}

// spread goes one step on from all states of the least cost from which nothing has gone on.
func (s *search) spread() {
	cost, states := s.ahead.take()
	for _, from := range states {
		label := s.label(from)
		if label/perCost < cost { // a better way has been found since
			continue
		}
		for cell, along := range s.around(from.cell) {
			price, last := s.price(from, along)
			s.reach(state{cell, last}, label+price)
		}
	}
}

// spreadUpTo goes on as long as there is anything up to a cost.
func (s *search) spreadUpTo(most int) {
	for {
		cost, more := s.ahead.least()
		if !more || cost > most {
			return
		}
		s.spread()
	}
}

// nearest goes on until it is sure which of some cells costs least (of equal ones the first one), and all labels on the best ways to it; false if there is no way to any of them.
func (s *search) nearest(cells []int) (int, bool) {
	for {
		first := slices.MinFunc(cells, func(a, b int) int { return cmp.Compare(s.cost(a), s.cost(b)) })
		next, more := s.ahead.least()
		if !more || s.cost(first) <= next {
			return first, s.cost(first) < tooDear
		}
		s.spread()
	}
}

// way returns the least one, cell by cell, of the best ways to a cell that nearest has found.
func (s *search) way(to int) []int {
	on, at := s.onBestWays(to)
	way := []int{at.cell}
	for at.cell != to {
		for cell, along := range s.around(at.cell) { // the first one that is on a best way is the least one
			price, last := s.price(at, along)
			next := state{cell, last}
			if on[next] && s.label(next) == s.label(at)+price {
				at = next
				break
			}
		}
		way = append(way, at.cell)
	}
	return way
}

// onBestWays goes back from a cell, and returns the states on the best ways to it, and the least one at which one begins.
func (s *search) onBestWays(to int) (map[state]bool, state) {
	on := map[state]bool{}
	var behind []state
	add := func(at state, label int) {
		if s.label(at) == label && !on[at] {
			on[at] = true
			behind = append(behind, at)
		}
	}
	for last := range axes {
		add(state{to, last}, slices.Min(s.labels[to][:]))
	}
	begin := state{cell: len(s.blocked)}
	for len(behind) > 0 {
		at := behind[len(behind)-1]
		behind = behind[:len(behind)-1]
		if s.label(at) == 0 && at.cell < begin.cell {
			begin = at
		}
		for cell, along := range s.around(at.cell) {
			for last := range axes {
				before := state{cell, last}
				if price, then := s.price(before, along); then == at.last {
					add(before, s.label(at)-price)
				}
			}
		}
	}
	return on, begin
}
