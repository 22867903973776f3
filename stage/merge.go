package stage

import (
	"slices"

	"kiln/api"
	"kiln/node"
	"kiln/store"
)

// Merge writes the nodes of a stage's tree that are new, at most one act a Step.
type Merge struct {
	*store.Put // of the first of todo's node, as long as it is under way
	store      *store.Store
	old        map[string]directory
	todo       []draft   // the directories that are not done, each behind all directories in it
	root       api.Entry // its Key and Ref, once it is done
	refs       []api.Ref // the nodes of the directories that are done
	used       []api.Ref // those of them that lay there
	written    []api.Ref // those that did not
	ended      bool
	err        api.Errno
}

// draft is a directory that a merge goes through.
type draft struct {
	path    string
	entries []api.Entry // those that are directories have key and ref when they are done
	own     *api.Entry  // its entry in the directory that it is in; of the root: the merge's
}

// Merge is a merge of the stage as it is now.
func (s *Stage) Merge() *Merge {
	m := &Merge{store: s.store, old: s.old}
	m.todo = s.drafts(nil, "", &m.root)
	return m
}

// drafts adds a directory, behind all directories in it.
func (s *Stage) drafts(list []draft, dir string, own *api.Entry) []draft {
	entries := s.entries(dir)
	for i, e := range entries {
		if e.Dir {
			list = s.drafts(list, below(dir, e.Name), &entries[i])
		}
	}
	return append(list, draft{path: dir, entries: entries, own: own})
}

// Step does at most one act: whether the merge has ended, and why.
func (m *Merge) Step() (bool, api.Errno) {
	for m.Put == nil && !m.ended {
		m.open()
	}
	if !m.ended {
		m.put()
	}
	return m.ended, m.err
}

// Key tells the new tree's key, if the merge has ended OK.
func (m *Merge) Key() api.Key {
	return m.root.Key
}

// Ref tells the new root's node, if the merge has ended OK.
func (m *Merge) Ref() api.Ref {
	return m.root.Ref
}

// Refs tells the nodes of all directories, each used once by the merge, if it has ended OK.
func (m *Merge) Refs() []api.Ref {
	if !m.ended {
		return nil
	}
	return slices.Clone(m.refs)
}

// Leave ends a merge that has not ended: what it wrote is free again, what it used is dropped.
func (m *Merge) Leave() {
	if !m.ended {
		m.fail(api.ErrRef)
	}
}

// open uses the old node of the next directory, if nothing in it is another; or begins to put one.
func (m *Merge) open() {
	d := m.todo[0]
	was, ok := m.old[d.path]
	if ok && slices.Equal(was.entries, d.entries) && m.store.Use(was.ref) == api.OK {
		m.used = append(m.used, was.ref)
		m.finish(was.ref)
		return
	}
	b, _ := node.Encode(d.entries) // never refused, for a stage has nothing that a directory may not have; nor is it too long for a chain
	m.Put, _ = m.store.Put(b)
}

// put does an act of the put that is under way; behind its last one the directory is done.
func (m *Merge) put() {
	ended, err := m.Put.Step()
	switch {
	case !ended:
	case err != api.OK:
		m.fail(err)
	default:
		ref := m.Put.Ref()
		if m.Wrote() {
			m.written = append(m.written, ref)
		} else {
			m.used = append(m.used, ref)
		}
		m.Put = nil
		m.finish(ref)
	}
}

// finish goes on behind a directory, whose node lies there from now on; behind the root the merge has ended.
func (m *Merge) finish(ref api.Ref) {
	d := m.todo[0]
	m.todo = m.todo[1:]
	m.refs = append(m.refs, ref)
	d.own.Ref = ref
	d.own.Key, _ = node.KeyOf(d.entries)
	if len(m.todo) == 0 {
		m.end(api.OK)
	}
}

// fail ends the merge and takes back all that it did. What it wrote goes last: it may have used it since, and a use that is dropped as the last one leaves the sectors spent.
func (m *Merge) fail(err api.Errno) {
	if m.Put != nil {
		m.Put.Leave()
	}
	for _, ref := range m.used {
		m.store.Drop(ref)
	}
	for _, ref := range slices.Backward(m.written) {
		m.store.Undo(ref)
	}
	m.refs = nil
	m.end(err)
}

// end ends the merge, and keeps no more than what is still told of it.
func (m *Merge) end(err api.Errno) {
	m.ended, m.err = true, err
	m.Put, m.store, m.old, m.todo, m.used, m.written = nil, nil, nil, nil, nil, nil
}
