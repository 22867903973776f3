package root

import (
	"bytes"

	"kiln/api"
	"kiln/wire"
)

// What a slot's sector has, in how many bytes, and where.
const (
	mark    = "kiln"
	narrow  = 4 // of Sectors, Journal, a First, a Len
	wide    = 8 // of Turn, Gen, Start
	keySize = len(api.Key{})
	refSize = keySize + 2*narrow
	sumSize = 4

	sizesAt  = len(mark)
	countsAt = sizesAt + 2*narrow
	keyAt    = countsAt + 3*wide
	rootAt   = keyAt + keySize
	memoAt   = rootAt + refSize
	sumAt    = api.SectorSize - sumSize
)

// What a disk has beside its journal.
const (
	slots     = 2 // ahead of it
	leastHeap = 2 // behind it: the empty tree's node and the empty memo have a sector each
)

// numbers are those of a slot, in the order in which they lie in its sector.
type numbers [9]int

// numbersOf tells a slot's numbers.
func numbersOf(s api.Slot) numbers {
	return numbers{s.Sectors, s.Journal, s.Turn, s.Gen, s.Start, s.Root.First, s.Root.Len, s.Memo.First, s.Memo.Len}
}

// sizes is where Sectors and Journal are.
func (n *numbers) sizes() []int {
	return n[:2]
}

// counts is where Turn, Gen and Start are.
func (n *numbers) counts() []int {
	return n[2:5]
}

// root is where First and Len of Root are.
func (n *numbers) root() []int {
	return n[5:7]
}

// memo is where First and Len of Memo are.
func (n *numbers) memo() []int {
	return n[7:]
}

// Encode is a slot's sector.
func Encode(s api.Slot) ([]byte, api.Errno) {
	if !mayBe(s) {
		return nil, api.ErrRoot
	}
	n := numbersOf(s)
	b := append(make([]byte, 0, api.SectorSize), mark...)
	b = addNumbers(b, narrow, n.sizes()...)
	b = addNumbers(b, wide, n.counts()...)
	b = append(b, s.Key[:]...)
	b = append(b, s.Root.Hash[:]...)
	b = addNumbers(b, narrow, n.root()...)
	b = append(b, s.Memo.Hash[:]...)
	b = addNumbers(b, narrow, n.memo()...)
	b = append(b, make([]byte, sumAt-len(b))...)
	return addNumbers(b, sumSize, int(wire.Sum(b))), api.OK
}

// Decode is the slot that a sector holds.
func Decode(b []byte) (api.Slot, api.Errno) {
	if len(b) != api.SectorSize {
		return api.Slot{}, api.ErrRoot
	}
	s := named(b)
	// A slot has one form alone, so whatever is otherwise in b is wrong.
	if form, err := Encode(s); err != api.OK || !bytes.Equal(form, b) {
		return api.Slot{}, api.ErrRoot
	}
	return s, api.OK
}

// mayBe tells whether there is such a slot.
func mayBe(s api.Slot) bool {
	if !within(s.Sectors, api.MinSectors, api.MaxSectors) {
		return false
	}
	if !within(s.Journal, api.MinJournal, min(api.MaxJournal, s.Sectors-slots-leastHeap)) {
		return false
	}
	n := numbersOf(s)
	for _, count := range n.counts() {
		if !within(count, 0, api.MaxCount) {
			return false
		}
	}
	return chainMayBe(s, n.root()) && chainMayBe(s, n.memo())
}

// chainMayBe tells whether a chain's First and Len may be, on the slot's disk.
func chainMayBe(s api.Slot, firstLen []int) bool {
	first, length := firstLen[0], firstLen[1]
	return within(first, slots+s.Journal, s.Sectors-1) && within(length, 0, api.MaxChain)
}

// within tells whether a number is one of least to most.
func within(v, least, most int) bool {
	return least <= v && v <= most
}

// addNumbers appends numbers, each in so many bytes; all that a slot has fit theirs.
func addNumbers(b []byte, size int, list ...int) []byte {
	for _, v := range list {
		fixed, _ := wire.Fixed(uint64(v), size)
		b = append(b, fixed...)
	}
	return b
}

// readNumbers fills a list with the numbers that lie there, each in so many bytes. (One that no int has is below 0, and so no slot's.)
func readNumbers(b []byte, at, size int, list []int) {
	for i := range list {
		v, next, _ := wire.ReadFixed(b, at, size)
		list[i], at = int(v), next
	}
}

// named is what a sector's bytes name, whether they are a slot's or not.
func named(b []byte) api.Slot {
	var n numbers
	readNumbers(b, sizesAt, narrow, n.sizes())
	readNumbers(b, countsAt, wide, n.counts())
	readNumbers(b, rootAt+keySize, narrow, n.root())
	readNumbers(b, memoAt+keySize, narrow, n.memo())
	return api.Slot{
		Sectors: n[0], Journal: n[1],
		Turn: n[2], Gen: n[3], Start: n[4],
		Key:  keyIn(b, keyAt),
		Root: api.Ref{Hash: keyIn(b, rootAt), First: n[5], Len: n[6]},
		Memo: api.Ref{Hash: keyIn(b, memoAt), First: n[7], Len: n[8]},
	}
}

// keyIn is the key that lies there.
func keyIn(b []byte, at int) api.Key {
	return api.Key(b[at : at+keySize])
}
