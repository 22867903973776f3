package graph

import (
	"slices"
	"strings"

	"kiln/api"
)

// turning tells the name of the task that is ahead of all others that lie on a cycle; there must be one.
//
// Two walks find the groups of knots that reach each other. The first goes by what is needed and puts all knots in a row in which the last one of a group stands behind all others that the group reaches. The second goes back, from the row's end on: whoever reaches the last one of a group, and has not been found yet, is of the group, for the groups that are not and yet reach it end further behind.
func (w *web) turning(tasks []api.Task) string {
	var row []int
	seen := make([]bool, len(w.needs))
	for knot := range w.needs {
		row = append(row, reach(w.needs, knot, seen)...)
	}
	first := len(w.needs)
	seen = make([]bool, len(w.needs))
	for _, knot := range slices.Backward(row) {
		// a group of more than one lies on a cycle; tasks and paths take turns on it, and tasks are the lesser knots
		if group := reach(w.needed, knot, seen); len(group) > 1 {
			first = min(first, slices.Min(group))
		}
	}
	return strings.Clone(tasks[w.places[first]].Name)
}

// step of a way: a knot, and how many threads from it have been followed.
type step struct{ knot, followed int }

// reach tells the knots that are reached from one and have not been seen, each when all threads from it have been followed; now they are seen. The way is a list and no row of calls: it may be as long as there are knots.
func reach(threads [][]int, from int, seen []bool) []int {
	if seen[from] {
		return nil
	}
	seen[from] = true
	var reached []int
	for way := []step{{knot: from}}; len(way) > 0; {
		last := &way[len(way)-1]
		if last.followed == len(threads[last.knot]) {
			reached = append(reached, last.knot)
			way = way[:len(way)-1]
			continue
		}
		next := threads[last.knot][last.followed]
		last.followed++
		if !seen[next] {
			seen[next] = true
			way = append(way, step{knot: next})
		}
	}
	return reached
}
