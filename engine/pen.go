package engine

import (
	"kiln/api"
	"kiln/space"
)

// work is what writes chains, at most one act a Step: a put, a merge.
type work interface {
	api.Stepper
	Leave()
}

// pen steps a build's work, and knows which sectors the chain has that is being written, and how many of them are written: a put tells only the one, and a merge neither.
type pen struct {
	work    work // under way; nil: none is
	taken   []int
	written int
	firsts  map[int]struct{} // the first sectors of all chains that were begun
}

// step does a Step of work.
func (p *pen) step(e *Engine, w work) (bool, api.Errno) {
	p.work = w
	var before *space.Space // as long as no chain is being written: one may be begun
	if !p.amidst() {
		before = e.space.Copy()
	}
	writes := e.disk.Acts().Writes
	ended, err := w.Step()
	if before != nil {
		p.begin(before, before.Free()-e.space.Free())
	}
	p.written += e.disk.Acts().Writes - writes
	if ended {
		p.work = nil
	}
	return ended, err
}

// amidst tells whether a chain is being written. (From its last Write on it is known to the store.)
func (p *pen) amidst() bool {
	return p.written < len(p.taken)
}

// begin begins a chain of so many sectors, if it has any: all are taken at once, the lowest that were free.
func (p *pen) begin(before *space.Space, count int) {
	p.taken, _ = before.TakeAll(count)
	p.written = 0
	if len(p.taken) > 0 {
		if p.firsts == nil {
			p.firsts = map[int]struct{}{}
		}
		p.firsts[p.taken[0]] = struct{}{}
	}
}

// wrote tells whether a known chain is one that was begun here.
func (p *pen) wrote(ref api.Ref) bool {
	_, ok := p.firsts[ref.First]
	return ok
}

// leave lets the work under way go: what it took is free again.
func (p *pen) leave() {
	if p.work != nil {
		p.work.Leave()
	}
	*p = pen{}
}
