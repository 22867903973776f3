package root

import (
	"bytes"
	"encoding/binary"
	"hash/crc32"
	"math"
	"math/rand"
	"slices"
	"testing"

	"kiln/api"
	"kiln/disk"
)

// last: the greatest turn, generation and record's number.
const last = 1 << 40

// far: numbers outside everything, and such as come back inside if a width or a sign is lost.
var far = []int{math.MinInt, math.MinInt + 10, -1 << 40, -1 << 32, -1<<32 + 40, -65536, -2, -1, 1<<41 + 10, 1<<48 + 40, 1<<62 + 10, math.MaxInt - 1, math.MaxInt}

func madeDisk(t *testing.T, sectors int) *disk.Disk {
	t.Helper()
	d, err := disk.New(sectors)
	if err != api.OK {
		t.Fatal(err)
	}
	return d
}

func write(t *testing.T, d *disk.Disk, n int, b []byte) {
	t.Helper()
	if err := d.Write(n, b); err != api.OK {
		t.Fatalf("Write(%d): %d", n, err)
	}
}

// content: what is read of each sector. (These Reads are acts of the disk, too.)
func content(d *disk.Disk) [][]byte {
	image := make([][]byte, d.Sectors())
	for n := range image {
		image[n], _ = d.Read(n)
	}
	return image
}

// alike: whether two lists of sectors are.
func alike(a, b [][]byte) bool {
	return slices.EqualFunc(a, b, bytes.Equal)
}

// summed: those bytes with the sum that belongs to them.
func summed(b []byte) []byte {
	b = slices.Clone(b)
	binary.LittleEndian.PutUint32(b[508:], crc32.ChecksumIEEE(b[:508]))
	return b
}

// form: the sector of a slot, as the chapter says it.
func form(s api.Slot) []byte {
	b := make([]byte, 512)
	copy(b, "kiln")
	binary.LittleEndian.PutUint32(b[4:], uint32(s.Sectors))
	binary.LittleEndian.PutUint32(b[8:], uint32(s.Journal))
	binary.LittleEndian.PutUint64(b[12:], uint64(s.Turn))
	binary.LittleEndian.PutUint64(b[20:], uint64(s.Gen))
	binary.LittleEndian.PutUint64(b[28:], uint64(s.Start))
	copy(b[36:68], s.Key[:])
	copy(b[68:100], s.Root.Hash[:])
	binary.LittleEndian.PutUint32(b[100:], uint32(s.Root.First))
	binary.LittleEndian.PutUint32(b[104:], uint32(s.Root.Len))
	copy(b[108:140], s.Memo.Hash[:])
	binary.LittleEndian.PutUint32(b[140:], uint32(s.Memo.First))
	binary.LittleEndian.PutUint32(b[144:], uint32(s.Memo.Len))
	return summed(b)
}

// may: whether the slot may be, as the chapter says it.
func may(s api.Slot) bool {
	if s.Sectors < 2 || s.Sectors > 65536 || s.Journal < 8 || s.Journal > 1024 || 4+s.Journal > s.Sectors {
		return false
	}
	for _, n := range []int{s.Turn, s.Gen, s.Start} {
		if n < 0 || n > last {
			return false
		}
	}
	for _, r := range []api.Ref{s.Root, s.Memo} {
		if r.First < 2+s.Journal || r.First > s.Sectors-1 || r.Len < 0 || r.Len > 1048576 {
			return false
		}
	}
	return true
}

// encodePlainly: what 18.1 says of a slot.
func encodePlainly(s api.Slot) ([]byte, api.Errno) {
	if !may(s) {
		return nil, api.ErrRoot
	}
	return form(s), api.OK
}

// decodePlainly: what 18.1 says of bytes: each part of the sector looked at by itself.
func decodePlainly(b []byte) (api.Slot, api.Errno) {
	if len(b) != 512 || string(b[:4]) != "kiln" || !bytes.Equal(b[148:508], make([]byte, 360)) || crc32.ChecksumIEEE(b[:508]) != binary.LittleEndian.Uint32(b[508:]) {
		return api.Slot{}, api.ErrRoot
	}
	four := func(at int) int { return int(binary.LittleEndian.Uint32(b[at:])) }
	eight := func(at int) int { return int(binary.LittleEndian.Uint64(b[at:])) }
	s := api.Slot{
		Sectors: four(4), Journal: four(8), Turn: eight(12), Gen: eight(20), Start: eight(28), Key: api.Key(b[36:68]),
		Root: api.Ref{Hash: api.Key(b[68:100]), First: four(100), Len: four(104)},
		Memo: api.Ref{Hash: api.Key(b[108:140]), First: four(140), Len: four(144)},
	}
	if !may(s) {
		return api.Slot{}, api.ErrRoot
	}
	return s, api.OK
}

// readPlainly: what 18.2 says of sectors.
func readPlainly(sectors [][]byte) (api.Slot, api.Errno) {
	var sound []api.Slot
	for n := range 2 {
		if s, err := decodePlainly(sectors[n]); err == api.OK && s.Sectors == len(sectors) && s.Turn%2 == n {
			sound = append(sound, s)
		}
	}
	if len(sound) == 0 {
		return api.Slot{}, api.ErrRoot
	}
	return slices.MaxFunc(sound, func(a, b api.Slot) int { return a.Turn - b.Turn }), api.OK
}

// chance: slots by chance.
type chance struct{ *rand.Rand }

func newChance(seed int64) chance {
	return chance{rand.New(rand.NewSource(seed))}
}

func (c chance) key() api.Key {
	var k api.Key
	c.Read(k[:])
	return k
}

// edge: a number of least to most, often one of its edges.
func (c chance) edge(least, most int) int {
	switch c.Intn(4) {
	case 0:
		return least
	case 1:
		return most
	}
	return least + c.Intn(most-least+1)
}

// slot: one that may be, of a disk of that many sectors.
func (c chance) slot(sectors, turn int) api.Slot {
	s := api.Slot{Sectors: sectors, Turn: turn, Key: c.key()}
	s.Journal = c.edge(8, min(1024, sectors-4))
	s.Gen, s.Start = c.edge(0, last), c.edge(0, last)
	s.Root, s.Memo = c.ref(s), c.ref(s)
	return s
}

func (c chance) ref(s api.Slot) api.Ref {
	return api.Ref{Hash: c.key(), First: c.edge(2+s.Journal, s.Sectors-1), Len: c.edge(0, 1048576)}
}

// any: a slot that may be, of any disk and turn.
func (c chance) any() api.Slot {
	return c.slot(c.edge(12, 65536), c.edge(0, last))
}

// sector: bytes that may come to stand in sector n of a disk: mostly a slot that is sound there; or one of the other sector, of another disk, of chance, spoilt.
func (c chance) sector(n, sectors, most int) []byte {
	turn := 2*c.Intn(most) + n
	switch c.Intn(16) {
	case 0:
		return form(c.slot(sectors, turn+1))
	case 1:
		return form(c.slot(sectors+1, turn))
	case 2:
		return form(c.slot(sectors-1, turn))
	case 3:
		return make([]byte, 512)
	case 4:
		b := make([]byte, 512)
		c.Read(b)
		return b
	case 5:
		b := form(c.slot(sectors, turn))
		b[c.Intn(512)] ^= 1 << c.Intn(8)
		return b
	case 6:
		b := form(c.slot(sectors, turn))
		b[c.Intn(508)] ^= 1 << c.Intn(8)
		return summed(b)
	}
	return form(c.slot(sectors, turn))
}
