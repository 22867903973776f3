package engine

import (
	"bytes"
	"maps"
	"slices"

	"kiln/api"
	"kiln/wire"
)

// What a memo has, and in how many bytes.
const (
	memoMark   = 2 // its first byte
	keySize    = len(api.Key{})
	numberSize = 4 // of First, of Len
	refSize    = keySize + 2*numberSize
)

// memo: by their prints the tasks whose outputs a generation has, with the refs of these.
type memo map[api.Key][]api.Ref

// bytes is the memo in its one form.
func (m memo) bytes() []byte {
	b := append([]byte{memoMark}, wire.Uint(uint64(len(m)))...)
	prints := slices.SortedFunc(maps.Keys(m), func(a, b api.Key) int { return bytes.Compare(a[:], b[:]) })
	for _, print := range prints {
		b = append(b, print[:]...)
		b = append(b, byte(len(m[print])))
		for _, ref := range m[print] {
			b = append(b, ref.Hash[:]...)
			b = addNumber(b, ref.First)
			b = addNumber(b, ref.Len)
		}
	}
	return b
}

// readMemo is the memo that has these bytes; false: none has.
func readMemo(b []byte) (memo, bool) {
	m, ok := named(b)
	// A memo has one form alone, so whatever is otherwise in b is wrong.
	if !ok || !bytes.Equal(m.bytes(), b) {
		return nil, false
	}
	return m, true
}

// named is what bytes name, whether they are a memo's or not; false: they end too early, or name what no memo has.
func named(b []byte) (memo, bool) {
	if len(b) == 0 {
		return nil, false
	}
	count, at, err := wire.ReadUint(b, 1)
	if err != api.OK || count > api.MaxTasks {
		return nil, false
	}
	m := memo{}
	for range count {
		if len(b)-at < keySize+1 {
			return nil, false
		}
		print, outs := api.Key(b[at:at+keySize]), int(b[at+keySize])
		at += keySize + 1
		if outs < 1 || outs > api.MaxOuts || len(b)-at < outs*refSize {
			return nil, false
		}
		for range outs {
			ref, ok := refIn(b[at : at+refSize])
			if !ok {
				return nil, false
			}
			m[print] = append(m[print], ref)
			at += refSize
		}
	}
	return m, true
}

// refIn is the ref of a file that these bytes name; false: no file's.
func refIn(b []byte) (api.Ref, bool) {
	first, at, _ := wire.ReadFixed(b, keySize, numberSize)
	length, _, _ := wire.ReadFixed(b, at, numberSize)
	ref := api.Ref{Hash: api.Key(b[:keySize]), First: int(first), Len: int(length)}
	return ref, ref.First < api.MaxSectors && ref.Len <= api.MaxFile
}

// addNumber appends a number; all that a memo has fit.
func addNumber(b []byte, v int) []byte {
	fixed, _ := wire.Fixed(uint64(v), numberSize)
	return append(b, fixed...)
}
