package engine

import (
	"kiln/api"
	"kiln/disk"
	"kiln/journal"
	"kiln/path"
	"kiln/pins"
	"kiln/root"
	"kiln/space"
	"kiln/store"
	"kiln/tree"
)

// Open recovers what a disk holds.
func Open(d *disk.Disk) (*Engine, api.Errno) {
	if d == nil {
		return nil, api.ErrArg
	}
	d.Flush() // else what is read here might be gone behind a crash
	slot, err := root.Read(d)
	if err != api.OK {
		return nil, err
	}
	e, records := over(d, slot)
	e.learnTree()
	e.learnMemo()
	if e.hurt() {
		return e, api.OK
	}
	for _, record := range records {
		e.learnResult(record)
	}
	return e, api.OK
}

// over is an engine over a slot that is sound, to which nothing in the heap is known; and the records that stand from the slot's Start on.
func over(d *disk.Disk, slot api.Slot) (*Engine, []api.Record) {
	// None of these is refused: a slot that is sound has its journal and two sectors behind it on the disk.
	heap, _ := space.New(journalAt+slot.Journal, d.Sectors())
	st, _ := store.New(d, heap)
	j, records, _ := journal.Open(d, journalAt, slot.Journal, slot.Start)
	return &Engine{
		disk:    d,
		space:   heap,
		store:   st,
		journal: j,
		slot:    slot,
		current: generationOf(slot),
		kept:    newResults(),
		pins:    pins.New(),
		old:     pins.NewTable[int, []api.Ref](),
		flaw:    none,
	}, records
}

// learnTree makes the chains of the current tree known, a directory's node ahead of what is in it.
func (e *Engine) learnTree() {
	t, _ := tree.New(e.store, e.current.key, e.current.root)
	var bare *output // a directory whose chain is whole, as long as nothing in it was told
	for at, entry := range t.Walk() {
		if bare != nil && !path.Under(bare.path, at) {
			e.spoil(bare.ref.First)
		}
		bare = nil
		if e.learn(entry.Ref) && entry.Dir {
			bare = &output{path: at, ref: entry.Ref}
		}
	}
	if bare == nil {
		return
	}
	// The root alone may have nothing in it.
	if _, _, err := t.List(""); bare.path == "" && err == api.OK {
		return
	}
	e.spoil(bare.ref.First)
}

// learnMemo makes the current memo known.
func (e *Engine) learnMemo() {
	ref := e.current.note
	if !e.learn(ref) {
		return
	}
	b, _, _ := e.store.Get(ref)
	m, ok := readMemo(b)
	if !ok {
		e.spoil(ref.First)
	}
	e.current.memo = m
}

// learn makes a chain of the current generation known: whether it is whole.
func (e *Engine) learn(ref api.Ref) bool {
	broken, err := e.store.Know(ref)
	if err != api.OK {
		e.spoil(broken)
		return false
	}
	e.current.chains = append(e.current.chains, ref)
	return true
}

// spoil is told a sector of the current generation that is broken.
func (e *Engine) spoil(sector int) {
	e.flaw = lesser(e.flaw, sector)
}

// learnResult keeps the result of a record whose chains are whole, in the place of an older one.
func (e *Engine) learnResult(record api.Record) {
	for i, ref := range record.Refs {
		if _, err := e.store.Know(ref); err != api.OK {
			e.unlearn(record.Refs[:i])
			return
		}
	}
	if older, ok := e.kept.find(record.Print); ok {
		e.kept.remove(older)
		e.unlearn(older.Refs)
	}
	e.kept.put(record)
}

// unlearn lets go of chains that Open has made known: behind it no sector is spent.
func (e *Engine) unlearn(refs []api.Ref) {
	for _, ref := range refs {
		e.store.Undo(ref)
	}
}
