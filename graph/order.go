package graph

import "container/heap"

// ordered is the nodes' places in the order; those that hang on themselves, and what hangs on these, aren't among them.
func ordered(deps [][]int) []int {
	above := turned(deps)
	waits := make([]int, len(deps))
	ready := &queue{}
	for i, l := range deps {
		waits[i] = len(l)
		if len(l) == 0 {
			heap.Push(ready, i)
		}
	}
	order := make([]int, 0, len(deps))
	for ready.Len() > 0 {
		i := heap.Pop(ready).(int)
		order = append(order, i)
		for _, k := range above[i] {
			waits[k]--
			if waits[k] == 0 {
				heap.Push(ready, k)
			}
		}
	}
	return order
}

// turned is, of each node, which ones have it as a dep.
func turned(deps [][]int) [][]int {
	above := make([][]int, len(deps))
	for i, l := range deps {
		for _, dep := range l {
			above[dep] = append(above[dep], i)
		}
	}
	return above
}

// queue is places, the least of which is popped first.
type queue []int

// Len is how many there are.
func (q queue) Len() int { return len(q) }

// Less tells whether one is ahead of another one.
func (q queue) Less(i, k int) bool { return q[i] < q[k] }

// Swap changes two.
func (q queue) Swap(i, k int) { q[i], q[k] = q[k], q[i] }

// Push puts one in.
func (q *queue) Push(x any) { *q = append(*q, x.(int)) }

// Pop takes the last one out.
func (q *queue) Pop() any {
	last := len(*q) - 1
	x := (*q)[last]
	*q = (*q)[:last]
	return x
}
