package den

import (
	"strings"

	"kiln/api"
	"kiln/path"
)

// aFile is what paths says of a file; of a directory it says how many names that has, and of what is not there 0.
const aFile = -1

// paths: the files of a tree, and the directories that they make, by their paths; the root is the empty text.
type paths map[string]int

// fits tells whether a path is not there, begins none that is and is begun by none.
func (p paths) fits(s string) bool {
	return p[s] == 0 && p[p.nearest(s)] != aFile
}

// full tells whether the directory that would get one more name with a path that fits has as many as there may be.
func (p paths) full(s string) bool {
	return p[p.nearest(s)] == api.MaxDir
}

// join lets a file join. A directory is one more name of the one above it only when it is new.
func (p paths) join(s string) {
	s = strings.Clone(s) // it is kept
	p[s] = aFile
	for dir := above(s); ; dir = above(dir) {
		p[dir]++
		if dir == "" || p[dir] > 1 {
			return
		}
	}
}

// nearest is what stands there of the directories above a path, the nearest one: only that one would get one more name. It may be a file.
func (p paths) nearest(s string) string {
	dir := above(s)
	for dir != "" && p[dir] == 0 {
		dir = above(dir)
	}
	return dir
}

// above is the directory that a path lies in.
func above(s string) string {
	return s[:max(0, strings.LastIndexByte(s, '/'))]
}

// isPath tells whether a text is a path.
func isPath(s string) bool {
	_, err, _ := path.Parse(s)
	return err == api.OK
}
