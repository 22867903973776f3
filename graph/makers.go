package graph

import (
	"slices"

	"kiln/api"
)

// makers: who makes a path. The paths that are outputs have numbers, from 0 on.
type makers struct {
	number map[string]int
	of     [][]int // by a path's number: the places of the tasks that have it as an output, rising
}

// makersOf tells who makes what of a list of tasks.
func makersOf(tasks []api.Task) makers {
	m := makers{number: map[string]int{}}
	for i, t := range tasks {
		for _, o := range t.Out {
			m.add(o.Path, i)
		}
	}
	return m
}

// add: the i-th task makes a path.
func (m *makers) add(path string, i int) {
	n, known := m.number[path]
	if !known {
		n = len(m.of)
		m.number[path] = n
		m.of = append(m.of, nil)
	}
	m.of[n] = append(m.of[n], i)
}

// made tells the numbers of those paths that somebody makes, each once: a path that is asked for again and again would else be as many steps as it has makers, each time.
func (m *makers) made(paths []string) []int {
	var made []int
	for _, p := range paths {
		if n, known := m.number[p]; known {
			made = append(made, n)
		}
	}
	slices.Sort(made)
	return slices.Compact(made)
}
