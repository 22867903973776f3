package drill

import (
	"crypto/sha256"
	"encoding/binary"
	"fmt"
	"slices"
	"sort"
	"strings"

	"kiln/api"
)

// file of a tree, as the model has it.
type file struct{ path, data string }

// filesOf: files as the model has them.
func filesOf(l []api.File) []file {
	var files []file
	for _, f := range l {
		files = append(files, file{f.Path, string(f.Data)})
	}
	return files
}

// dir: a directory of a tree.
type dir struct {
	files map[string]string
	dirs  map[string]*dir
}

// newDir: one with nothing in it.
func newDir() *dir {
	return &dir{files: map[string]string{}, dirs: map[string]*dir{}}
}

// treeOf: the root of a tree of these files.
func treeOf(files []file) *dir {
	root := newDir()
	for _, f := range files {
		d := root
		names := strings.Split(f.path, "/")
		for _, name := range names[:len(names)-1] {
			if d.dirs[name] == nil {
				d.dirs[name] = newDir()
			}
			d = d.dirs[name]
		}
		d.files[names[len(names)-1]] = f.data
	}
	return root
}

// names: in byte order.
func (d *dir) names() []string {
	var l []string
	for name := range d.files {
		l = append(l, name)
	}
	for name := range d.dirs {
		l = append(l, name)
	}
	sort.Strings(l)
	return l
}

// key: chapter 8's, with the library's SHA-256.
func (d *dir) key() [32]byte {
	b := []byte{1}
	for _, name := range d.names() {
		b = append(binary.AppendUvarint(b, uint64(len(name))), name...)
		if sub := d.dirs[name]; sub != nil {
			k := sub.key()
			b = append(append(b, 1), k[:]...)
			continue
		}
		k := sha256.Sum256([]byte(d.files[name]))
		b = binary.AppendUvarint(append(append(b, 0), k[:]...), uint64(len(d.files[name])))
	}
	return sha256.Sum256(b)
}

// listing: the answer of list.
func (d *dir) listing() string {
	answer := "ok"
	for _, name := range d.names() {
		if d.dirs[name] != nil {
			answer += " " + name + "/"
		} else {
			answer += fmt.Sprintf(" %s:%d", name, len(d.files[name]))
		}
	}
	return answer
}

// at: what stands at a path: a directory, or a file, or an error of 21.8 that a Read of it answers, and where that is told.
func (d *dir) at(path string) (sub *dir, data string, err int, nodes []*dir) {
	nodes = []*dir{d}
	names := strings.Split(path, "/")
	for i, name := range names {
		next, isDir := d.dirs[name]
		data, isFile := d.files[name]
		switch {
		case isFile && i == len(names)-1:
			return nil, data, 0, nodes
		case isFile:
			return nil, "", 92, nodes
		case !isDir:
			return nil, "", 90, nodes
		case i == len(names)-1:
			return next, "", 91, nodes
		}
		d = next
		nodes = append(nodes, d)
	}
	return d, "", 91, nodes
}

// size: how many bytes its node has.
func (d *dir) size() int {
	size := 1 + len(binary.AppendUvarint(nil, uint64(len(d.names()))))
	for _, name := range d.names() {
		size += 1 + len(name) + 1 + 32 + 32 + 4 + 4
	}
	return size
}

// sectors: how many a chain of so many bytes has.
func sectors(size int) int {
	return max(1, (size+479)/480)
}

// shape: what two directories have alike whose nodes are the same bytes, if each byte string lies in one place.
func (d *dir) shape() string {
	s := "{"
	for _, name := range d.names() {
		if sub := d.dirs[name]; sub != nil {
			s += name + sub.shape()
		} else {
			s += fmt.Sprintf("%s=%x", name, sha256.Sum256([]byte(d.files[name])))
		}
	}
	return s + "}"
}

// chains: the sizes of all chains of a tree, each byte string once, by what tells them apart.
func (d *dir) chains(l map[string]int) {
	l["node "+d.shape()] = d.size()
	for _, data := range d.files {
		l["file "+data] = len(data)
	}
	for _, sub := range d.dirs {
		sub.chains(l)
	}
}

// memoSize: how many bytes the memo of so many tasks has, of so many outputs.
func memoSize(tasks, outs int) int {
	return 1 + len(binary.AppendUvarint(nil, uint64(tasks))) + 33*tasks + 40*outs
}

// heldBy: how many sectors a tree and its memo have, of so many tasks with so many outputs.
func heldBy(files []file, tasks, outs int) int {
	l := map[string]int{}
	treeOf(files).chains(l)
	held := sectors(memoSize(tasks, outs))
	for _, size := range l {
		held += sectors(size)
	}
	return held
}

// need: of the files and directories of a tree the sectors of all chains, equal ones as often as they come.
func (d *dir) need() int {
	all := sectors(d.size())
	for _, data := range d.files {
		all += sectors(len(data))
	}
	for _, sub := range d.dirs {
		all += sub.need()
	}
	return all
}

// allDirs: the paths of all directories of a tree, the root's too.
func allDirs(files []file) []string {
	l := []string{""}
	for _, f := range files {
		for i, c := range f.path {
			if c == '/' && !slices.Contains(l, f.path[:i]) {
				l = append(l, f.path[:i])
			}
		}
	}
	return l
}
