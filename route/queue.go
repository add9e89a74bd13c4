package route

import "container/heap"

// queue has states by their costs. States of one cost have no order, since each step costs something: none of them leads to another one.
type queue struct {
	byCost map[int][]state
	costs  costHeap // those that byCost has
}

func newQueue() *queue {
	return &queue{byCost: map[int][]state{}}
}

func (q *queue) put(cost int, s state) {
	l, known := q.byCost[cost]
	if !known {
		heap.Push(&q.costs, cost)
	}
	q.byCost[cost] = append(l, s)
}

// least returns the least cost that there is, and whether there is one.
func (q *queue) least() (int, bool) {
	if len(q.costs) == 0 {
		return 0, false
	}
	return q.costs[0], true
}

// take removes the least cost with its states.
func (q *queue) take() (int, []state) {
	cost, more := q.least()
	if !more {
		return 0, nil
	}
	heap.Pop(&q.costs)
	l := q.byCost[cost]
	delete(q.byCost, cost)
	return cost, l
}

// costHeap is what container/heap works on.
type costHeap []int

// Len is for container/heap.
func (h costHeap) Len() int { return len(h) }

// Less is for container/heap.
func (h costHeap) Less(i, j int) bool { return h[i] < h[j] }

// Swap is for container/heap.
func (h costHeap) Swap(i, j int) { h[i], h[j] = h[j], h[i] }

// Push is for container/heap.
func (h *costHeap) Push(cost any) {
	if n, ok := cost.(int); ok {
		*h = append(*h, n)
	}
}

// Pop is for container/heap.
func (h *costHeap) Pop() any {
	last := len(*h) - 1
	n := (*h)[last]
	*h = (*h)[:last]
	return n
}
