package graph

import "container/heap"

// queue: the tasks that may come next. It is a heap: the least knot, which is ahead of all others, stands first.
type queue []int

func (q queue) Len() int           { return len(q) }
func (q queue) Less(i, j int) bool { return q[i] < q[j] }
func (q queue) Swap(i, j int)      { q[i], q[j] = q[j], q[i] }

// Push and Pop are what package heap asks for; put and take are what to call.
func (q *queue) Push(knot any) { *q = append(*q, knot.(int)) }

func (q *queue) Pop() any {
	last := len(*q) - 1
	knot := (*q)[last]
	*q = (*q)[:last]
	return knot
}

func (q *queue) put(knot int) { heap.Push(q, knot) }

func (q *queue) take() int { return heap.Pop(q).(int) }
