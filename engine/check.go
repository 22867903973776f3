package engine

import (
	"kiln/api"
	"kiln/chain"
)

// Where a chain's sector has the first bytes of its byte string's hash.
const (
	hashAt   = 12
	hashSize = 8
)

// Check reads all that is held and was written: the least sector that is not as it was written, or -1.
func (e *Engine) Check() int {
	if e.hurt() {
		return e.flaw
	}
	least := none
	for _, ref := range e.store.Refs() {
		sectors := e.store.Sectors(ref)
		for place, n := range sectors {
			if !chain.Sound(e.read(n), ref, place, behind(sectors, place)) {
				least = lesser(least, n)
			}
		}
	}
	if e.build != nil && e.build.amidst() {
		least = lesser(least, e.checkHalf(e.build.taken, e.build.written))
	}
	return least
}

// checkHalf is Check of a chain that is being written, as far as it is.
func (e *Engine) checkHalf(sectors []int, written int) int {
	least := none
	for place, n := range sectors[:written] {
		b := e.read(n)
		if !chain.Sound(b, halfRef(b, len(sectors)), place, behind(sectors, place)) {
			least = lesser(least, n)
		}
	}
	return least
}

// halfRef is a ref by which a sector of a chain that is being written is sound, if it is as it was written. The sum in it holds what it says of the hash; and since it is not the chain's last one, any length of as many pieces does.
func halfRef(b []byte, pieces int) api.Ref {
	ref := api.Ref{Len: min(pieces*api.PieceSize, api.MaxChain)}
	copy(ref.Hash[:hashSize], b[hashAt:])
	return ref
}

// behind is the sector that the one at a place of a chain names.
func behind(sectors []int, place int) int {
	if place+1 == len(sectors) {
		return 0
	}
	return sectors[place+1]
}

// lesser is the lesser sector of two, where there are two.
func lesser(a, b int) int {
	if a == none || b == none {
		return max(a, b)
	}
	return min(a, b)
}

// read reads a sector of the heap.
func (e *Engine) read(n int) []byte {
	b, _ := e.disk.Read(n) // never refused: all that is held is the disk's
	return b
}
