package tree

import (
	"slices"
	"strings"

	"kiln/api"
	"kiln/node"
	"kiln/path"
)

// spot is a place of a tree: a path, and the entry that lies there.
type spot struct {
	path  string // empty: the root's
	entry api.Entry
}

// below is the spot of one of this directory's entries.
func (s spot) below(e api.Entry) spot {
	if s.path == "" {
		return spot{path: e.Name, entry: e}
	}
	return spot{path: s.path + "/" + e.Name, entry: e}
}

// next is the spot of the first of the names that come, in this directory, whose entries are these.
func (s spot) next(entries []api.Entry, names []string) (spot, api.Errno) {
	at, found := slices.BinarySearchFunc(entries, names[0], func(e api.Entry, name string) int {
		return strings.Compare(e.Name, name)
	})
	if !found {
		return spot{}, api.ErrAbsent
	}
	if !entries[at].Dir && len(names) > 1 {
		return spot{}, api.ErrFile
	}
	return s.below(entries[at]), api.OK
}

// entries tells what is in this directory, whose node's chain has these bytes; or the node's sector and ErrBroken.
func (s spot) entries(b []byte) ([]api.Entry, int, api.Errno) {
	list, err := node.Decode(b)
	if err != api.OK || !s.holds(list) {
		return nil, s.entry.Ref.First, api.ErrBroken
	}
	return list, 0, api.OK
}

// holds tells whether this directory may have these entries, which are some directory's.
func (s spot) holds(list []api.Entry) bool {
	if len(list) == 0 && s.path != "" {
		return false // a tree has no directory that begins no path, but the root
	}
	if key, _ := node.KeyOf(list); key != s.entry.Key {
		return false
	}
	return !slices.ContainsFunc(list, func(e api.Entry) bool {
		_, err := namesOf(s.below(e).path)
		return err != api.OK
	})
}

// namesOf tells the names of a path.
func namesOf(text string) ([]string, api.Errno) {
	names, err, _ := path.Parse(text)
	return names, err
}
