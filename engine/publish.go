package engine

import (
	"kiln/api"
	"kiln/stage"
)

// merging is the phase in which the new tree's nodes are written.
type merging struct {
	*build
	merge *stage.Merge // nil: the current tree is not read
}

func (p *merging) next() phase {
	if p.merge == nil {
		if err := p.open(); err != api.OK {
			return p.fail(err)
		}
	}
	ended, err := p.step(p.engine, p.merge)
	if err != api.OK {
		return p.fail(err)
	}
	if !ended {
		return p
	}
	for _, ref := range p.merge.Refs() {
		p.hold(ref, p.wrote(ref))
	}
	return &putting{build: p.build, values: [][]byte{p.memo.bytes()}, then: func(refs []api.Ref) phase {
		return publishing{build: p.build, key: p.merge.Key(), root: p.merge.Ref(), note: refs[0]}
	}}
}

// open lays the outputs over the current tree, of which nothing else stays.
func (p *merging) open() api.Errno {
	e := p.engine
	s, err := stage.New(e.store, e.current.key, e.current.root)
	if err != api.OK {
		return err
	}
	var paths []string
	for _, out := range p.outs {
		paths = append(paths, out.path)
	}
	s.Keep(paths...)
	for _, out := range p.outs {
		s.Set(out.path, out.ref) // never refused: the tally had them all
	}
	p.merge = s.Merge()
	return api.OK
}

// publishing is the phase in which the new tree's root is written.
type publishing struct {
	*build
	key  api.Key
	root api.Ref
	note api.Ref
}

func (p publishing) next() phase {
	s := p.engine.slot
	s.Gen, s.Start = p.engine.current.number+1, p.engine.journal.Next()
	s.Key, s.Root, s.Memo = p.key, p.root, p.note
	return p.turn(p, s, p.publish)
}

// publish ends the build with the tree that was published.
func (p publishing) publish() phase {
	g := generationOf(p.engine.slot)
	g.memo, g.chains = p.memo, p.held()
	p.engine.publish(g)
	p.gen = g.number
	return p.end(api.Fault{})
}
