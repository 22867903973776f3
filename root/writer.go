package root

import (
	"kiln/api"
	"kiln/disk"
)

// state counts the acts that a writer has done.
type state int

const (
	fresh state = iota
	written
	flushed
)

// Writer writes one slot: a Write, then a Flush.
type Writer struct {
	disk *disk.Disk
	slot api.Slot
	done state
}

// NewWriter is a writer of that slot, which has done nothing yet.
func NewWriter(d *disk.Disk, s api.Slot) (*Writer, api.Errno) {
	if d == nil {
		return nil, api.ErrArg
	}
	if !mayBe(s) || s.Sectors != d.Sectors() {
		return nil, api.ErrRoot
	}
	return &Writer{disk: d, slot: s}, api.OK
}

// Step does the Write, then the Flush, and tells whether both are done.
func (w *Writer) Step() (bool, api.Errno) {
	switch w.done {
	case fresh:
		b, _ := Encode(w.slot) // NewWriter has seen that the slot may be
		w.disk.Write(place(w.slot), b)
		w.done++
	case written:
		w.disk.Flush()
		w.done++
	}
	return w.done == flushed, api.OK
}
