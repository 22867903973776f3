package tree

import (
	"bytes"

	"kiln/api"
	"kiln/store"
)

// Reading reads a file, a Read a Step.
type Reading struct {
	*store.Getter // of the chain that is read; none ahead of the first Step, and behind the end
	store         *store.Store
	here          spot     // what that chain is of
	names         []string // those that come behind it
	bytes         []byte
	broken        int
	ended         bool
	err           api.Errno
}

// Reading is a reading of a file that has done no Read.
func (t *Tree) Reading(path string) (*Reading, api.Errno) {
	names, err := namesOf(path)
	if err != api.OK {
		return nil, err
	}
	return &Reading{store: t.store, here: t.root, names: names}, api.OK
}

// Step does the next Read, and all that needs none: whether it has ended, and why.
func (r *Reading) Step() (bool, api.Errno) {
	if r.Getter == nil && !r.ended {
		r.open()
	}
	if !r.ended {
		r.read()
	}
	return r.ended, r.err
}

// Bytes tells the bytes, if it has ended OK.
func (r *Reading) Bytes() []byte {
	return bytes.Clone(r.bytes)
}

// Broken tells the sector, if it has ended with ErrBroken.
func (r *Reading) Broken() int {
	return r.broken
}

// open begins the chain of what lies here; or ends, where that needs no Read.
func (r *Reading) open() {
	if r.here.entry.Dir && len(r.names) == 0 {
		r.end(api.ErrDir)
		return
	}
	g, err := r.store.Getter(r.here.entry.Ref)
	if err != api.OK {
		r.fail(r.here.entry.Ref.First, err)
		return
	}
	r.Getter = g
}

// read reads a sector; behind a chain's last one it goes on to the next chain, or ends.
func (r *Reading) read() {
	ended, err := r.Getter.Step()
	switch {
	case err != api.OK:
		r.fail(r.Getter.Broken(), err)
	case !ended:
	case r.here.entry.Dir:
		r.enter()
	default:
		r.bytes = r.Getter.Bytes()
		r.end(api.OK)
	}
}

// enter goes on from a directory, whose node has been read, to the next name in it.
func (r *Reading) enter() {
	entries, broken, err := r.here.entries(r.Getter.Bytes())
	if err != api.OK {
		r.fail(broken, err)
		return
	}
	next, err := r.here.next(entries, r.names)
	if err != api.OK {
		r.end(err)
		return
	}
	r.here, r.names = next, r.names[1:]
	r.open()
}

// fail ends the reading with an error of a chain; the sector is told of ErrBroken alone.
func (r *Reading) fail(sector int, err api.Errno) {
	if err == api.ErrBroken {
		r.broken = sector
	}
	r.end(err)
}

// end ends the reading, and keeps no more than what is still told of it.
func (r *Reading) end(err api.Errno) {
	r.ended, r.err = true, err
	r.Getter, r.store, r.here, r.names = nil, nil, spot{}, nil
}
