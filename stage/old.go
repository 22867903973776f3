package stage

import (
	"slices"

	"kiln/api"
	"kiln/node"
)

// directory is one of the tree that a stage began with: what is in it, and its node.
type directory struct {
	entries []api.Entry
	ref     api.Ref
}

// learn reads the directory of a path, then those in it, and enters their files.
func (s *Stage) learn(dir string, key api.Key, ref api.Ref) api.Errno {
	b, _, err := s.store.Get(ref)
	if err != api.OK {
		return err
	}
	list, err := node.Decode(b)
	if err != api.OK || !holds(dir, key, list) {
		return api.ErrBroken
	}
	s.old[dir] = directory{entries: list, ref: ref}
	for _, e := range list {
		at := below(dir, e.Name)
		if !e.Dir {
			s.enter(at, e.Ref)
			continue
		}
		if err := s.learn(at, e.Key, e.Ref); err != api.OK {
			return err
		}
	}
	return api.OK
}

// holds tells whether the directory of a path, whose key this is, may have these entries. It is chapter 9's rule: package tree walks without telling why a directory has nothing, and lists without telling refs, so that to ask it for both would read directories again and again.
func holds(dir string, key api.Key, list []api.Entry) bool {
	if len(list) == 0 && dir != "" {
		return false
	}
	if k, _ := node.KeyOf(list); k != key {
		return false
	}
	return !slices.ContainsFunc(list, func(e api.Entry) bool { return !isPath(below(dir, e.Name)) })
}
