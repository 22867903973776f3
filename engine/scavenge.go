package engine

import (
	"kiln/api"
	"kiln/mark"
)

// scavenging reads all that is held, by lists, and gives back what is not.
type scavenging struct {
	course
	mark *mark.Mark
}

// Scavenge begins a scavenging.
func (e *Engine) Scavenge() api.Errno {
	if e.sweep != nil {
		return api.ErrScan
	}
	if e.hurt() {
		return api.ErrHurt
	}
	m, _ := mark.New(e.disk, e.space.From()) // never refused: a heap has two sectors at least
	s := &scavenging{course: course{engine: e, counts: allActs}, mark: m}
	s.phase = gathering{s}
	e.sweep = s
	return api.OK
}

// Sweep lets the scavenging do n acts.
func (e *Engine) Sweep(n int) (api.Progress, api.Errno) {
	s := e.sweep
	if s == nil {
		return api.Progress{}, api.ErrOver
	}
	if n < 1 {
		return api.Progress{}, api.ErrSteps
	}
	p := s.run(n)
	if p.Ended {
		e.sweep = nil
	}
	return p, api.OK
}

// allActs: of a scavenging Reads count, too.
func allActs(a api.Acts) int {
	return a.Reads + a.Writes + a.Flushes
}

// gathering is the phase in which a scavenging reads, and behind all Reads gives back, or writes a root ahead of that.
type gathering struct {
	*scavenging
}

func (p gathering) next() phase {
	read, err := p.read()
	if !read && err == api.OK {
		p.list()
		read, err = p.read()
	}
	switch {
	case err != api.OK:
		return p.fail(err)
	case read:
		return p
	case p.engine.recorded():
		return p.turn(p, p.engine.trimmed(), func() phase { return p })
	}
	p.engine.giveBack()
	return p.end(api.Fault{})
}

// read does the next Read of the list, if one is left.
func (s *scavenging) read() (bool, api.Errno) {
	before := s.acts()
	_, err := s.mark.Step()
	return s.acts() > before, err
}

// list makes the next list: all that there is now, for what a list had is not read again.
func (s *scavenging) list() {
	e := s.engine
	s.mark.AddRoot(e.current.key, e.current.root)
	s.mark.AddRef(e.current.note)
	for _, pin := range e.pins.All() {
		s.mark.AddRoot(pin.Key, pin.Root)
		s.mark.AddRef(pin.Memo)
	}
	for _, record := range e.kept.from(0) {
		for _, ref := range record.Refs {
			s.mark.AddRef(ref)
		}
	}
}

// recorded tells whether a result that may be forgotten has a record that the next Open would find.
func (e *Engine) recorded() bool {
	for number := range e.kept.from(e.slot.Start) {
		if !e.bound(number) {
			return true
		}
	}
	return false
}

// trimmed is the newest root with a Start behind all records, but those of the build under way.
func (e *Engine) trimmed() api.Slot {
	s := e.slot
	if e.build != nil && e.build.staged() {
		s.Start = max(s.Start, e.build.first)
	} else {
		s.Start = e.journal.Next()
	}
	return s
}

// giveBack forgets the results that no build under way needs, and makes all free that is not held.
func (e *Engine) giveBack() {
	for number, record := range e.kept.from(0) {
		if !e.bound(number) {
			e.forget(record)
		}
	}
	e.store.Sweep()
}

// bound tells whether the build under way has staged or uses a kept result.
func (e *Engine) bound(number int) bool {
	return e.build != nil && e.build.binds(number)
}
