package engine

import "kiln/api"

// generation is a tree that was published, with what a build asks of it.
type generation struct {
	number int
	key    api.Key
	root   api.Ref // its root's node
	note   api.Ref // its memo's bytes
	memo   memo
	chains []api.Ref // its nodes, files and memo, each used once in the store for it
}

// generationOf is the one that a slot leads to, of which nothing has been read.
func generationOf(s api.Slot) generation {
	return generation{number: s.Gen, key: s.Key, root: s.Root, note: s.Memo}
}

// publish makes a generation the current one. The records of all results stand ahead of its slot's Start, and its memo has what it takes from them.
func (e *Engine) publish(next generation) {
	last := e.current
	e.current = next
	if e.pins.Of(last.number) > 0 {
		e.old.Put(last.number, last.chains)
	} else {
		e.drop(last.chains)
	}
	for _, record := range e.kept.from(0) {
		e.forget(record)
	}
}

// forget keeps a result no more, and lets go of its outputs.
func (e *Engine) forget(record api.Record) {
	e.kept.remove(record)
	e.drop(record.Refs)
}

// Pin pins the current generation: the pin's number, and the generation.
func (e *Engine) Pin() (int, int, api.Errno) {
	g := e.current
	pin, err := e.pins.Pin(g.number, g.key, g.root, g.note)
	if err != api.OK {
		return 0, 0, err
	}
	return pin, g.number, api.OK
}

// Unpin lets go of a pin; with its last one a generation that is not current is let go of.
func (e *Engine) Unpin(pin int) api.Errno {
	p, _ := e.pins.Get(pin)
	if err := e.pins.Unpin(pin); err != api.OK {
		return err
	}
	if e.pins.Of(p.Gen) == 0 {
		chains, _ := e.old.Get(p.Gen) // none, if it is the current one
		e.old.Delete(p.Gen)
		e.drop(chains)
	}
	return api.OK
}
