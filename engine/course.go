package engine

import (
	"kiln/api"
	"kiln/root"
)

// phase is where a course stands. next does what comes there, at most one act that counts, and tells where the course stands then.
type phase interface {
	next() phase
}

// course is what a build and a scavenging share: each goes on by single acts, phase by phase, on an engine whose root they write by turns.
type course struct {
	engine *Engine
	phase  phase
	counts func(api.Acts) int // how many of a disk's acts count
	waits  bool               // another course has the root
	ended  bool
	gen    int // that it published
	fault  api.Fault
}

// run goes on up to and with the n-th act that counts, or to the end, or to where it waits.
func (c *course) run(n int) api.Progress {
	before := c.acts()
	done := 0
	c.waits = false
	for done < n && !c.waits && !c.ended {
		c.phase = c.phase.next()
		done = c.acts() - before
	}
	return api.Progress{Acts: done, Waits: c.waits, Ended: c.ended, Gen: c.gen, Fault: c.fault}
}

// acts tells how many acts that count the disk has done so far.
func (c *course) acts() int {
	return c.counts(c.engine.disk.Acts())
}

// end ends the course: no phase comes then.
func (c *course) end(fault api.Fault) phase {
	c.ended, c.fault = true, fault
	return nil
}

// fail ends the course with an error that no task has brought.
func (c *course) fail(err api.Errno) phase {
	return c.end(api.Fault{Err: err})
}

// has tells whether this course has written the root, and its Flush was not answered.
func (c *course) has() bool {
	return c.engine.rooted == c
}

// turn writes a root of this generation, start and tree, and stands behind that Write; or it stays here, as long as another course has the root.
func (c *course) turn(here phase, slot api.Slot, then func() phase) phase {
	e := c.engine
	if e.rooted != nil {
		c.waits = true
		return here
	}
	slot.Turn = e.slot.Turn + 1
	if max(slot.Turn, slot.Gen, slot.Start) > api.MaxCount {
		return c.fail(api.ErrLast)
	}
	w, _ := root.NewWriter(e.disk, slot) // never refused: its numbers are in their bounds, and its chains in the heap
	w.Step()
	e.slot, e.rooted = slot, c
	return settling{course: c, writer: w, then: then}
}

// settling is the phase behind a root's Write: its Flush, and what comes with the answer.
type settling struct {
	*course
	writer *root.Writer
	then   func() phase
}

func (p settling) next() phase {
	p.writer.Step()
	p.engine.rooted = nil
	p.engine.journal.Move(p.engine.slot.Start)
	return p.then()
}
