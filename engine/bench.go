package engine

import (
	"kiln/api"
	"kiln/print"
	"kiln/sha"
)

// bench: what lies ready for tasks.
type bench struct {
	data map[string][]byte  // by a path: a file of the source, and from when it has been made on the output
	keys map[string]api.Key // their hashes, of files of the source once they were asked for
}

// newBench is one with the files of a source.
func newBench(src []api.File) bench {
	b := bench{data: map[string][]byte{}, keys: map[string]api.Key{}}
	for _, f := range src {
		b.data[f.Path] = f.Data
	}
	return b
}

// lay lays an output on the bench.
func (b bench) lay(path string, data []byte, key api.Key) {
	b.data[path], b.keys[path] = data, key
}

// key is the hash of what lies at a path.
func (b bench) key(path string) api.Key {
	key, ok := b.keys[path]
	if !ok {
		key = sha.Sum(b.data[path])
		b.keys[path] = key
	}
	return key
}

// inputs of a task.
func (b bench) inputs(t api.Task) [][]byte {
	var ins [][]byte
	for _, path := range t.In {
		ins = append(ins, b.data[path])
	}
	return ins
}

// print is the fingerprint of a task with its inputs.
func (b bench) print(t api.Task) api.Key {
	var keys []api.Key
	for _, path := range t.In {
		keys = append(keys, b.key(path))
	}
	key, _ := print.Fingerprint(t, keys) // never refused: a manifest says the task, and each input has its key
	return key
}
