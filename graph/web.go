package graph

import (
	"cmp"
	"slices"
	"strings"

	"kiln/api"
)

// web: tasks, and the paths that they make, as knots: first the tasks, each behind those that are ahead of it, then the paths. A task needs the paths that it takes in, a path the tasks that make it: a path with many makers and many takers has so but one thread for each of them, not one for each two. (And no knot needs itself.)
type web struct {
	places []int   // by a task's knot: its place in the list
	needs  [][]int // by a knot: those that it needs
	needed [][]int // by a knot: those that need it
	waits  []int   // by a knot: how many threads of needs lead to those that have not come
}

// weave makes the web of a list of tasks, none of which has come.
func weave(tasks []api.Task) *web {
	w := &web{places: places(tasks)}
	row := make([]api.Task, len(tasks))
	for knot, i := range w.places {
		row[knot] = tasks[i]
	}
	m := makersOf(row)
	for _, t := range row {
		w.knot(behindTasks(m.made(t.In), len(row)))
	}
	for _, by := range m.of {
		w.knot(by)
	}
	w.turn()
	return w
}

// places of the tasks, those ahead first.
func places(tasks []api.Task) []int {
	l := make([]int, len(tasks))
	for i := range l {
		l[i] = i
	}
	slices.SortFunc(l, func(i, j int) int {
		return cmp.Or(strings.Compare(tasks[i].Name, tasks[j].Name), cmp.Compare(i, j))
	})
	return l
}

// behindTasks makes knots of the numbers of paths.
func behindTasks(paths []int, tasks int) []int {
	knots := make([]int, len(paths))
	for i, p := range paths {
		knots[i] = tasks + p
	}
	return knots
}

// knot adds the next knot, with those that it needs.
func (w *web) knot(needs []int) {
	w.needs = append(w.needs, needs)
	w.waits = append(w.waits, len(needs))
}

// turn tells of all knots by whom they are needed.
func (w *web) turn() {
	w.needed = make([][]int, len(w.needs))
	for knot, needs := range w.needs {
		for _, n := range needs {
			w.needed[n] = append(w.needed[n], knot)
		}
	}
}

// free tells the tasks that need none, those ahead first.
func (w *web) free() []int {
	var free []int
	for task := range w.places {
		if w.waits[task] == 0 {
			free = append(free, task)
		}
	}
	return free
}

// come: a task, or a path, has come. It tells the tasks that waited for nothing else.
func (w *web) come(knot int) []int {
	var free []int
	for _, n := range w.needed[knot] {
		w.waits[n]--
		switch {
		case w.waits[n] > 0:
		case n < len(w.places):
			free = append(free, n)
		default: // the last of its makers has come: so has the path
			free = append(free, w.come(n)...)
		}
	}
	return free
}

// behind: a level's tasks have come. It tells the next level.
func (w *web) behind(level []int) []int {
	var next []int
	for _, task := range level {
		next = append(next, w.come(task)...)
	}
	slices.Sort(next)
	return next
}

// placesOf tasks, in their order.
func (w *web) placesOf(tasks []int) []int {
	l := make([]int, len(tasks))
	for i, task := range tasks {
		l[i] = w.places[task]
	}
	return l
}
