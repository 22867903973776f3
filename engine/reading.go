package engine

import (
	"kiln/api"
	"kiln/tree"
)

// Read is a file of a pinned tree.
func (e *Engine) Read(pin int, path string) ([]byte, api.Errno) {
	t, err := e.tree(pin)
	if err != api.OK {
		return nil, err
	}
	b, _, err := t.Get(path)
	return b, err
}

// List tells a directory of a pinned tree; the empty path is the root.
func (e *Engine) List(pin int, path string) ([]api.Listed, api.Errno) {
	t, err := e.tree(pin)
	if err != api.OK {
		return nil, err
	}
	l, _, err := t.List(path)
	return l, err
}

// Reading begins a Read that is stepped.
func (e *Engine) Reading(pin int, path string) (*Reading, api.Errno) {
	t, err := e.tree(pin)
	if err != api.OK {
		return nil, err
	}
	r, err := t.Reading(path)
	if err != api.OK {
		return nil, err
	}
	return &Reading{engine: e, pin: pin, file: r}, api.OK
}

// tree is the tree that a pin holds.
func (e *Engine) tree(pin int) (*tree.Tree, api.Errno) {
	p, err := e.pins.Get(pin)
	if err != api.OK {
		return nil, err
	}
	return tree.New(e.store, p.Key, p.Root)
}

// Reading is a read that is stepped.
type Reading struct {
	engine *Engine
	pin    int
	file   *tree.Reading // nil: it has ended
}

// More does n Reads, or goes to the end: the bytes, and whether it has ended.
func (r *Reading) More(n int) ([]byte, bool, api.Errno) {
	if r.file == nil {
		return nil, false, api.ErrOver
	}
	if _, err := r.engine.pins.Get(r.pin); err != api.OK {
		r.end()
		return nil, true, err
	}
	if n < 1 {
		return nil, false, api.ErrSteps
	}
	for range n {
		if ended, err := r.file.Step(); ended {
			b := r.file.Bytes()
			r.end()
			return b, true, err
		}
	}
	return nil, false, api.OK
}

// end keeps no more of a reading than that it has ended.
func (r *Reading) end() {
	*r = Reading{}
}
