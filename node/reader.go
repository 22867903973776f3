package node

import (
	"kiln/api"
	"kiln/wire"
)

// reader goes through the bytes of a node. It gives up at the first thing that is wrong, by a panic with the api.Errno that says why: so nothing that reads on has to ask whether what stands ahead of it was right.
type reader struct {
	bytes []byte
	at    int // the place of what is read next
}

// directory reads all of a node.
func (r *reader) directory() []api.Entry {
	demand(r.number(markSize) == startMark, api.ErrNode)
	count := r.count()
	l := make([]api.Entry, 0, count)
	for range count {
		l = append(l, r.entry(l))
	}
	demand(r.at == len(r.bytes), api.ErrNode)
	return l
}

// count reads how many entries there are.
func (r *reader) count() int {
	n, behind, err := wire.ReadUint(r.bytes, r.at)
	demand(err == api.OK, api.ErrNode)
	demand(n <= api.MaxDir, api.ErrMany)
	r.at = behind
	return int(n)
}

// entry reads one that stands behind those ahead of it.
func (r *reader) entry(ahead []api.Entry) api.Entry {
	var e api.Entry
	e.Name = r.name(ahead)
	mark := r.number(markSize)
	e.Dir = mark == dirMark
	e.Key = r.key()
	e.Ref.Hash = r.key()
	e.Ref.First = r.number(numberSize)
	e.Ref.Len = r.number(numberSize)
	demand(e.Dir || mark == fileMark, api.ErrNode)
	demand(sound(e), api.ErrNode)
	return e
}

// name reads an entry's name.
func (r *reader) name(ahead []api.Entry) string {
	b, behind, err := wire.ReadBytes(r.bytes, r.at, api.MaxName)
	demand(err != api.ErrBig, api.ErrName)
	demand(err == api.OK, api.ErrNode)
	r.at = behind
	name := string(b)
	wrong := checkName(ahead, name)
	demand(wrong == api.OK, wrong)
	return name
}

// number reads a number of so many bytes.
func (r *reader) number(size int) int {
	n, behind, err := wire.ReadFixed(r.bytes, r.at, size)
	demand(err == api.OK, api.ErrNode)
	r.at = behind
	return int(n)
}

// key reads a key, or a hash.
func (r *reader) key() api.Key {
	var k api.Key
	copied := copy(k[:], r.bytes[r.at:])
	demand(copied == keySize, api.ErrNode)
	r.at += copied
	return k
}

// demand gives up, unless it holds.
func demand(holds bool, wrong api.Errno) {
	if !holds {
		panic(wrong)
	}
}
