package store

import (
	"bytes"
	"slices"

	"kiln/api"
	"kiln/chain"
	"kiln/sha"
)

// Put puts a byte string, an act a Step.
type Put struct {
	store  *Store
	bytes  []byte        // as long as they may be compared, or a chain of them be begun
	found  api.Ref       // the chain that stood for the hash at the first Step; zero: none did (no chain has the sector 0)
	getter *Getter       // as long as that one is read
	writer *chain.Writer // as long as a chain is written
	taken  []int         // the sectors of the chain that is, or was, written
	ref    api.Ref
	ended  bool
	err    api.Errno
}

// Put is a put of these bytes that has done nothing yet.
func (s *Store) Put(b []byte) (*Put, api.Errno) {
	if len(b) > api.MaxChain {
		return nil, api.ErrLong
	}
	return &Put{store: s, bytes: bytes.Clone(b)}, api.OK
}

// Step does at most one act: whether the put has ended, and why.
func (p *Put) Step() (bool, api.Errno) {
	switch {
	case p.ended:
	case p.getter != nil:
		p.compare()
	case p.writer != nil:
		p.write()
	case p.found != api.Ref{}: // it has been read, and was not whole
		p.take()
	default:
		p.look()
	}
	return p.ended, p.err
}

// Ref tells the chain, if the put has ended OK.
func (p *Put) Ref() api.Ref {
	return p.ref
}

// Wrote tells whether the chain is one that this put wrote.
func (p *Put) Wrote() bool {
	return p.ended && len(p.taken) > 0
}

// Taken tells the sectors that the put took, in their order.
func (p *Put) Taken() []int {
	return slices.Clone(p.taken)
}

// Leave ends a put that has not ended: what it took is free again.
func (p *Put) Leave() {
	if p.ended {
		return
	}
	if p.getter != nil {
		p.drop()
	}
	p.store.held -= len(p.taken)
	p.store.give(p.taken)
	p.end(api.ErrRef)
}

// look finds the chain that stands for the hash and begins to read it; or begins to write one.
func (p *Put) look() {
	ref, ok := p.store.Find(sha.Sum(p.bytes))
	if !ok {
		p.take()
		return
	}
	p.store.Use(ref)
	p.found = ref
	p.getter, _ = p.store.Getter(ref) // never refused: what is known has been read, or written
	p.compare()
}

// compare reads a sector of the chain that was found; behind its last one that chain is what was put, or not.
func (p *Put) compare() {
	ended, err := p.getter.Step()
	switch {
	case !ended:
	case err != api.OK:
		p.drop()
	case !bytes.Equal(p.getter.Bytes(), p.bytes):
		p.drop()
		p.end(api.ErrClash)
	default:
		p.ref = p.found
		p.end(api.OK)
	}
}

// drop ends the reading of the chain that was found, and this put's use of it.
func (p *Put) drop() {
	p.store.Drop(p.found) // refused, where others have dropped its last use: then there is none to drop
	p.getter = nil
}

// take takes all sectors that the bytes need, and writes the first one.
func (p *Put) take() {
	w, err := chain.NewWriter(p.store.disk, p.store.space, p.bytes)
	if err != api.OK {
		p.end(err)
		return
	}
	p.writer, p.bytes = w, nil // the writer has its own
	p.taken = w.Numbers()
	p.store.held += len(p.taken)
	p.write()
}

// write writes a sector; behind the last one the chain is known.
func (p *Put) write() {
	if ended, _ := p.writer.Step(); !ended { // never refused: the space has none but the disk's sectors
		return
	}
	ref := p.writer.Ref()
	p.store.learn(ref, p.taken)
	if p.store.stands[ref.Hash] == p.found {
		p.store.stands[ref.Hash] = ref // the one that was found is not whole
	}
	p.ref = ref
	p.end(api.OK)
}

// end ends the put, and keeps no more than what is still told of it.
func (p *Put) end(err api.Errno) {
	p.ended, p.err = true, err
	p.bytes, p.getter, p.writer = nil, nil, nil
	if err != api.OK {
		p.taken = nil
	}
}
