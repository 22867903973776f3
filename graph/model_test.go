package graph

import (
	"math/rand"
	"slices"

	"kiln/api"
)

// needPlainly: whether an input of one task is the path of an output of another.
func needPlainly(t, other api.Task) bool {
	return slices.ContainsFunc(other.Out, func(o api.Output) bool { return slices.Contains(t.In, o.Path) })
}

// needsPlainly: the places of those that the i-th task needs.
func needsPlainly(tasks []api.Task, i int) []int {
	var l []int
	for j := range tasks {
		if i >= 0 && i < len(tasks) && needPlainly(tasks[i], tasks[j]) {
			l = append(l, j)
		}
	}
	return l
}

// aheadPlainly: whether the i-th task is ahead of the j-th.
func aheadPlainly(tasks []api.Task, i, j int) bool {
	a, b := []byte(tasks[i].Name), []byte(tasks[j].Name)
	for k := range min(len(a), len(b)) {
		if a[k] != b[k] {
			return a[k] < b[k]
		}
	}
	if len(a) != len(b) {
		return len(a) < len(b)
	}
	return i < j
}

// firstPlainly: of some places the one that is ahead of all others; -1 of none.
func firstPlainly(tasks []api.Task, l []int) int {
	first := -1
	for _, i := range l {
		if first < 0 || aheadPlainly(tasks, i, first) {
			first = i
		}
	}
	return first
}

// turningPlainly: the places of the tasks that lie on a cycle, by all that can be reached in any number of steps.
func turningPlainly(tasks []api.Task) []int {
	reach := make([][]bool, len(tasks))
	for i := range tasks {
		reach[i] = make([]bool, len(tasks))
		for _, j := range needsPlainly(tasks, i) {
			reach[i][j] = true
		}
	}
	for k := range tasks {
		for i := range tasks {
			for j := range tasks {
				reach[i][j] = reach[i][j] || reach[i][k] && reach[k][j]
			}
		}
	}
	var l []int
	for i := range tasks {
		if reach[i][i] {
			l = append(l, i)
		}
	}
	return l
}

// readyPlainly: the places of those that are not among some, and need only these.
func readyPlainly(tasks []api.Task, come []int) []int {
	var l []int
	for i := range tasks {
		waits := slices.ContainsFunc(needsPlainly(tasks, i), func(j int) bool { return !slices.Contains(come, j) })
		if !waits && !slices.Contains(come, i) {
			l = append(l, i)
		}
	}
	return l
}

// orderPlainly: 13.2 as it stands there.
func orderPlainly(tasks []api.Task) ([]int, api.Errno, string) {
	if l := turningPlainly(tasks); len(l) > 0 {
		return nil, api.ErrCycle, tasks[firstPlainly(tasks, l)].Name
	}
	var order []int
	for range tasks {
		order = append(order, firstPlainly(tasks, readyPlainly(tasks, order)))
	}
	return order, api.OK, ""
}

// levelsPlainly: 13.3 as it stands there.
func levelsPlainly(tasks []api.Task) ([][]int, api.Errno, string) {
	if l := turningPlainly(tasks); len(l) > 0 {
		return nil, api.ErrCycle, tasks[firstPlainly(tasks, l)].Name
	}
	var levels [][]int
	var come []int
	for len(come) < len(tasks) {
		ready := readyPlainly(tasks, come)
		come = append(come, ready...)
		var level []int
		for len(ready) > 0 {
			first := firstPlainly(tasks, ready)
			level = append(level, first)
			ready = slices.DeleteFunc(ready, func(i int) bool { return i == first })
		}
		levels = append(levels, level)
	}
	return levels, api.OK, ""
}

// rows: all orders of some places.
func rows(l []int) [][]int {
	if len(l) == 0 {
		return [][]int{nil}
	}
	var all [][]int
	for k, i := range l {
		rest := slices.Delete(slices.Clone(l), k, k+1)
		for _, row := range rows(rest) {
			all = append(all, append([]int{i}, row...))
		}
	}
	return all
}

// rightRow: whether each stands behind all that it needs.
func rightRow(tasks []api.Task, row []int) bool {
	for k, i := range row {
		for _, j := range needsPlainly(tasks, i) {
			if !slices.Contains(row[:k], j) {
				return false
			}
		}
	}
	return true
}

// leastRow: of all rows of all places in which each stands behind all that it needs the least; none if there is none.
func leastRow(tasks []api.Task) []int {
	var least []int
	for _, row := range rows(numbers(len(tasks))) {
		if rightRow(tasks, row) && (least == nil || lesserRow(tasks, row, least)) {
			least = row
		}
	}
	return least
}

// lesserRow: whether at the first place at which two rows part the first one has the task that is ahead.
func lesserRow(tasks []api.Task, a, b []int) bool {
	for k := range a {
		if a[k] != b[k] {
			return aheadPlainly(tasks, a[k], b[k])
		}
	}
	return false
}

func numbers(n int) []int {
	l := make([]int, n)
	for i := range l {
		l[i] = i
	}
	return l
}

// one of some.
func one[T any](r *rand.Rand, l []T) T { return l[r.Intn(len(l))] }

// some of some, perhaps one of them again and again.
func some(r *rand.Rand, l []string, most int) []string {
	var out []string
	for range r.Intn(most + 1) {
		out = append(out, one(r, l))
	}
	return out
}

// chanceNames and chancePaths: texts that are near one another, also such as no manifest says.
var (
	chanceNames = []string{"", "a", "A", "a2", "a10", "aa", "b", "B", "ab", "a\x00", "\xff", "\x80", "é", "a ", "_", "-", "z"}
	chancePaths = []string{"", "x", "X", "x/", "x/y", "/x", "x\x00", "\xff", "\xfe", "é", "e\u0301", "y", "src", "o/1", "o/2", "o/10", "."}
)

// chanceTasks: how many, how many paths there are, how many inputs and outputs a task has at most.
func chanceTasks(r *rand.Rand, tasks, paths, ins, outs int) []api.Task {
	var l []api.Task
	all := chancePaths[:min(paths, len(chancePaths))]
	for range tasks {
		t := api.Task{Name: one(r, chanceNames), In: some(r, all, ins)}
		for _, p := range some(r, all, outs) {
			t.Out = append(t.Out, api.Output{Path: p})
		}
		l = append(l, t)
	}
	return l
}

// chanceWeb: tasks that need one another by chance, mostly those of lesser places, so that there are few cycles or none; then shuffled.
func chanceWeb(r *rand.Rand, tasks, back int) []api.Task {
	var l []api.Task
	for i := range tasks {
		l = append(l, makes(one(r, chanceNames), nil, output(i)))
		for range r.Intn(3) {
			if i > 0 {
				l[i].In = append(l[i].In, output(r.Intn(i)))
			}
		}
	}
	for range back {
		i := r.Intn(tasks)
		l[i].In = append(l[i].In, output(r.Intn(tasks)))
	}
	r.Shuffle(len(l), func(i, j int) { l[i], l[j] = l[j], l[i] })
	return l
}
