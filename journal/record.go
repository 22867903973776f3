package journal

import (
	"bytes"

	"kiln/api"
	"kiln/wire"
)

// What a record's sector has, in how many bytes, and where.
const (
	mark       = "work"
	numSize    = 8
	keySize    = len(api.Key{})
	countSize  = 1
	numberSize = 4 // of First, of Len
	refSize    = keySize + 2*numberSize
	sumSize    = 4

	numAt   = len(mark)
	printAt = numAt + numSize
	countAt = printAt + keySize
	refsAt  = countAt + countSize
	sumAt   = api.SectorSize - sumSize
)

// Encode writes a record as the bytes of a sector.
func Encode(r api.Record) ([]byte, api.Errno) {
	if r.Num < 0 || r.Num > api.MaxCount {
		return nil, api.ErrLast
	}
	if !refsMayBe(r.Refs) {
		return nil, api.ErrRefs
	}
	b := append(make([]byte, 0, api.SectorSize), mark...)
	b = addNumber(b, uint64(r.Num), numSize)
	b = append(b, r.Print[:]...)
	b = append(b, byte(len(r.Refs)))
	for _, ref := range r.Refs {
		b = append(b, ref.Hash[:]...)
		b = addNumber(b, uint64(ref.First), numberSize)
		b = addNumber(b, uint64(ref.Len), numberSize)
	}
	b = append(b, make([]byte, sumAt-len(b))...)
	return addNumber(b, uint64(wire.Sum(b)), sumSize), api.OK
}

// Decode reads a record.
func Decode(b []byte) (api.Record, api.Errno) {
	if len(b) != api.SectorSize {
		return api.Record{}, api.ErrBroken
	}
	r := named(b)
	// A record has one form alone, so whatever is otherwise in b is wrong.
	if form, err := Encode(r); err != api.OK || !bytes.Equal(form, b) {
		return api.Record{}, api.ErrBroken
	}
	return r, api.OK
}

// refsMayBe tells whether a record may have these references.
func refsMayBe(refs []api.Ref) bool {
	if len(refs) == 0 || len(refs) > api.MaxOuts {
		return false
	}
	for _, ref := range refs {
		if ref.First < 0 || ref.First >= api.MaxSectors || ref.Len < 0 || ref.Len > api.MaxFile {
			return false
		}
	}
	return true
}

// addNumber appends a number in so many bytes; all that a record has fit theirs.
func addNumber(b []byte, v uint64, size int) []byte {
	fixed, _ := wire.Fixed(v, size)
	return append(b, fixed...)
}

// named is what a sector's bytes name, whether they are a record's or not.
func named(b []byte) api.Record {
	r := api.Record{Num: numberIn(b, numAt, numSize), Print: api.Key(b[printAt:countAt])}
	// A greater count is no record's; its references would not all lie in the sector.
	count := min(int(b[countAt]), api.MaxOuts)
	for at := refsAt; at < refsAt+count*refSize; at += refSize {
		r.Refs = append(r.Refs, refIn(b, at))
	}
	return r
}

// refIn is the reference that lies there.
func refIn(b []byte, at int) api.Ref {
	firstAt := at + keySize
	return api.Ref{
		Hash:  api.Key(b[at:firstAt]),
		First: numberIn(b, firstAt, numberSize),
		Len:   numberIn(b, firstAt+numberSize, numberSize),
	}
}

// numberIn is the number that lies there. (One that no int has is below 0, and so no record's.)
func numberIn(b []byte, at, size int) int {
	v, _, _ := wire.ReadFixed(b, at, size)
	return int(v)
}
