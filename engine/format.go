package engine

import (
	"kiln/api"
	"kiln/chain"
	"kiln/disk"
	"kiln/node"
	"kiln/root"
	"kiln/space"
)

// leastHeap: the empty tree's node and the empty memo have a sector each.
const leastHeap = 2

// Format makes a disk one with the empty tree and a journal of so many sectors.
func Format(d *disk.Disk, journal int) api.Errno {
	if d == nil {
		return api.ErrArg
	}
	if journal < api.MinJournal || journal > api.MaxJournal {
		return api.ErrJournal
	}
	if d.Sectors() < journalAt+journal+leastHeap {
		return api.ErrSmall
	}
	wipe(d, journalAt+journal)
	slot := emptySlot(d, journal)
	d.Flush() // ahead of the slot: what it leads to must last when it does
	w, _ := root.NewWriter(d, slot)
	w.Step()
	w.Step()
	return api.OK
}

// wipe writes zeros into all sectors from slot 1 up to the heap. Slot 0 is written over at the end: till then what was there may count.
func wipe(d *disk.Disk, heap int) {
	zeros := make([]byte, api.SectorSize)
	for n := 1; n < heap; n++ {
		d.Write(n, zeros)
	}
}

// emptySlot writes the empty tree and its memo: the slot that leads to them.
func emptySlot(d *disk.Disk, journal int) api.Slot {
	heap, _ := space.New(journalAt+journal, d.Sectors())
	b, _ := node.Encode(nil)
	tree, _, _ := chain.Put(d, heap, b)
	memory, _, _ := chain.Put(d, heap, memo{}.bytes())
	key, _ := node.KeyOf(nil)
	return api.Slot{Sectors: d.Sectors(), Journal: journal, Key: key, Root: tree, Memo: memory}
}
