package den

import (
	"slices"

	"kiln/api"
	"kiln/path"
)

// bench: the tasks of a manifest, and the bytes that lie ready for them.
type bench struct {
	tasks []api.Task
	order []int
	data  map[string][]byte // by a path: a file of the source, and from when it has been made on the output
}

// newBench is one of which no task has been run; or the fault of Plan.
func newBench(manifest string, src []api.File) (*bench, api.Fault) {
	tasks, order, fault := Plan(manifest, src)
	if fault.Err != api.OK {
		return nil, fault
	}
	b := &bench{tasks: tasks, order: order, data: map[string][]byte{}}
	for _, f := range src {
		b.data[f.Path] = f.Data
	}
	return b, api.Fault{}
}

// inputs of a task. Whoever makes one of them must have been run.
func (b *bench) inputs(place int) [][]byte {
	var ins [][]byte
	for _, in := range b.tasks[place].In {
		ins = append(ins, b.data[in])
	}
	return ins
}

// lay lays the outputs of a task on the bench.
func (b *bench) lay(place int, values [][]byte) {
	for i, value := range values {
		b.data[b.tasks[place].Out[i].Path] = value
	}
}

// run runs a task on the spot.
func (b *bench) run(place int) api.Errno {
	values, _, err := Make(b.tasks[place], b.inputs(place))
	b.lay(place, values)
	return err
}

// tree goes through the tasks in their order: it tells the files of all, or the first fault. came tells what came of a task: if that is no error, its outputs lie on the bench from then on.
func (b *bench) tree(came func(place int) api.Errno) ([]api.File, api.Fault) {
	var files []api.File
	tally := NewTally()
	for _, place := range b.order {
		t := b.tasks[place]
		if err := came(place); err != api.OK {
			return nil, api.Fault{Err: err, Task: t.Name}
		}
		for _, out := range t.Out {
			data := b.data[out.Path]
			if err := tally.Add(out.Path, len(data)); err != api.OK {
				return nil, api.Fault{Err: err, Task: t.Name}
			}
			files = append(files, api.File{Path: out.Path, Data: data})
		}
	}
	slices.SortFunc(files, func(a, b api.File) int { return path.Order(a.Path, b.Path) })
	return files, api.Fault{}
}
