package root

import (
	"bytes"
	"encoding/binary"
	"math"
	"slices"
	"testing"

	"kiln/api"
)

// parts: the numbers of a slot, each with its least and its greatest while the others are those of the chapter's examples.
var parts = []struct {
	of          func(s *api.Slot) *int
	least, most int
}{
	{func(s *api.Slot) *int { return &s.Sectors }, 12, 65536},
	{func(s *api.Slot) *int { return &s.Journal }, 8, 8}, // Root lies right behind it
	{func(s *api.Slot) *int { return &s.Turn }, 0, last},
	{func(s *api.Slot) *int { return &s.Gen }, 0, last},
	{func(s *api.Slot) *int { return &s.Start }, 0, last},
	{func(s *api.Slot) *int { return &s.Root.First }, 10, 39},
	{func(s *api.Slot) *int { return &s.Root.Len }, 0, 1048576},
	{func(s *api.Slot) *int { return &s.Memo.First }, 10, 39},
	{func(s *api.Slot) *int { return &s.Memo.Len }, 0, 1048576},
}

// wantEncode: what 18.1 says of a slot, and, where it has a form, that it is read back.
func wantEncode(t *testing.T, s api.Slot, want api.Errno) {
	t.Helper()
	plain, err := encodePlainly(s)
	if err != want {
		t.Fatalf("%v is %d, not %d", s, err, want)
	}
	b, err := Encode(s)
	if err != want || !bytes.Equal(b, plain) {
		t.Errorf("18.1: Encode(%v): %x, %d, want %x, %d", s, b, err, plain, want)
	}
	if want != api.OK {
		return
	}
	if back, err := Decode(b); err != api.OK || back != s {
		t.Errorf("18.5: Decode of Encode(%v): %v, %d", s, back, err)
	}
}

// 18.1: the bytes of a slot, written out.
func TestFormWritten(t *testing.T) {
	s := api.Slot{
		Sectors: 0x1234, Journal: 0x0123, Turn: 0x0102030405, Gen: 0x0605040302, Start: 0x0f0e0d0c0b, Key: api.Key(bytes.Repeat([]byte{7}, 32)),
		Root: api.Ref{Hash: api.Key(bytes.Repeat([]byte{8}, 32)), First: 0x0201, Len: 0x0a0b0c},
		Memo: api.Ref{Hash: api.Key(bytes.Repeat([]byte{9}, 32)), First: 0x0304, Len: 0x0d0e0f},
	}
	want := slices.Concat(
		[]byte{'k', 'i', 'l', 'n', 0x34, 0x12, 0, 0, 0x23, 0x01, 0, 0},
		[]byte{5, 4, 3, 2, 1, 0, 0, 0}, []byte{2, 3, 4, 5, 6, 0, 0, 0}, []byte{0x0b, 0x0c, 0x0d, 0x0e, 0x0f, 0, 0, 0},
		bytes.Repeat([]byte{7}, 32),
		bytes.Repeat([]byte{8}, 32), []byte{1, 2, 0, 0, 0x0c, 0x0b, 0x0a, 0},
		bytes.Repeat([]byte{9}, 32), []byte{4, 3, 0, 0, 0x0f, 0x0e, 0x0d, 0},
		make([]byte, 364),
	)
	if b, err := Encode(s); err != api.OK || !bytes.Equal(b, summed(want)) {
		t.Errorf("18.1: %x, %d", b, err)
	}
}

// 18.1, 18.5: the form of slots of all kinds, and back.
func TestForm(t *testing.T) {
	c := newChance(181)
	for range 20000 {
		wantEncode(t, c.any(), api.OK)
	}
	for _, sectors := range []int{12, 13, 40, 1027, 1028, 1029, 65535, 65536} {
		for range 200 {
			wantEncode(t, c.slot(sectors, c.edge(0, last)), api.OK)
		}
	}
}

// 18.1: each number by itself, at its bounds, beside them, and far outside.
func TestFormBounds(t *testing.T) {
	for _, p := range parts {
		for _, x := range []struct {
			n    int
			want api.Errno
		}{{p.least, api.OK}, {p.most, api.OK}, {p.least - 1, api.ErrRoot}, {p.most + 1, api.ErrRoot}} {
			s := theSlot
			*p.of(&s) = x.n
			wantEncode(t, s, x.want)
		}
		for _, n := range far {
			s := theSlot
			*p.of(&s) = n
			wantEncode(t, s, api.ErrRoot)
		}
	}
	wantEncode(t, api.Slot{}, api.ErrRoot)
}

// 18.1: Sectors and Journal together: 4 + Journal may be Sectors, and no more.
func TestFormSizes(t *testing.T) {
	for _, sectors := range append([]int{0, 1, 2, 3, 10, 11, 12, 13, 40, 1026, 1027, 1028, 1029, 1030, 65535, 65536, 65537}, far...) {
		for journal := -2; journal < 1030; journal++ {
			s := api.Slot{Sectors: sectors, Journal: journal, Root: api.Ref{First: 2 + journal}, Memo: api.Ref{First: 3 + journal}}
			want := api.ErrRoot
			if sectors >= 2 && sectors <= 65536 && journal >= 8 && journal <= 1024 && journal+4 <= sectors {
				want = api.OK
			}
			wantEncode(t, s, want)
		}
		for _, journal := range far {
			wantEncode(t, api.Slot{Sectors: sectors, Journal: journal, Root: api.Ref{First: 10}, Memo: api.Ref{First: 11}}, api.ErrRoot)
		}
	}
}

// 18.1: a chain begins behind the journal and on the disk, wherever the journal ends.
func TestFormFirst(t *testing.T) {
	c := newChance(1811)
	for range 2000 {
		s := c.any()
		for _, ref := range []*api.Ref{&s.Root, &s.Memo} {
			first := ref.First
			for _, x := range []struct {
				first int
				want  api.Errno
			}{
				{2 + s.Journal, api.OK}, {s.Sectors - 1, api.OK}, {1 + s.Journal, api.ErrRoot}, {s.Sectors, api.ErrRoot},
				{0, api.ErrRoot}, {1, api.ErrRoot}, {2, api.ErrRoot}, {1<<32 + first, api.ErrRoot}, {-first, api.ErrRoot},
			} {
				ref.First = x.first
				wantEncode(t, s, x.want)
			}
			ref.First = first
		}
	}
}

// wantDecode: what 18.1 says of bytes; whether they are a slot's.
func wantDecode(t *testing.T, b []byte) bool {
	t.Helper()
	want, wantErr := decodePlainly(b)
	s, err := Decode(b)
	if err != wantErr || s != want {
		t.Fatalf("18.1: Decode(%x): %v, %d, want %v, %d", b, s, err, want, wantErr)
	}
	if err != api.OK {
		return false
	}
	if back, err := Encode(s); err != api.OK || !bytes.Equal(back, b) {
		t.Fatalf("18.1: Encode of Decode(%x): %x, %d", b, back, err)
	}
	return true
}

// 18.1: bytes of other lengths, also those that begin as a slot, or end as one.
func TestDecodeLength(t *testing.T) {
	b := form(newChance(1812).any())
	long := slices.Concat(b, b, b)
	for n := range len(long) + 1 {
		if wantDecode(t, long[:n]) != (n == 512) {
			t.Errorf("18.1: %d bytes", n)
		}
	}
	for n := range 512 {
		if wantDecode(t, b[n:]) != (n == 0) {
			t.Errorf("18.1: without the first %d bytes", n)
		}
	}
	if wantDecode(t, nil) || wantDecode(t, make([]byte, 512)) || wantDecode(t, summed(make([]byte, 512))) {
		t.Error("18.1: nothing, or zeros, are a slot")
	}
}

// 18.5: each bit of a slot turned over makes it none; with the sum that belongs to it, it is none where it may not be, else another slot.
func TestDecodeBits(t *testing.T) {
	c := newChance(185)
	for range 20 {
		b := form(c.any())
		for bit := range 4096 {
			b[bit/8] ^= 1 << (bit % 8)
			if wantDecode(t, b) {
				t.Fatalf("18.5: a slot with the bit %d turned over", bit)
			}
			if at := bit / 8; at < 508 {
				sound := wantDecode(t, summed(b))
				free := at >= 36 && at < 100 || at >= 108 && at < 140 // those of a key
				if free && !sound || (at < 4 || at >= 148) && sound {
					t.Fatalf("18.1: the bit %d turned over, and summed: %t", bit, sound)
				}
			}
			b[bit/8] ^= 1 << (bit % 8)
		}
		if !wantDecode(t, b) {
			t.Fatal("18.5: turned back it is none")
		}
	}
}

// 18.1: numbers that four bytes may have, and eight.
func TestDecodeNumbers(t *testing.T) {
	for _, at := range []int{4, 8, 100, 104, 140, 144} {
		b := form(theSlot)
		for _, n := range []uint32{1 << 24, 1 << 31, 1<<31 + 10, math.MaxUint32 - 1, math.MaxUint32} {
			binary.LittleEndian.PutUint32(b[at:], n)
			if wantDecode(t, summed(b)) {
				t.Errorf("18.1: the number %d at %d", n, at)
			}
		}
	}
	for _, at := range []int{12, 20, 28} {
		b := form(theSlot)
		for _, x := range []struct {
			n    uint64
			want bool
		}{{0, true}, {1 << 32, true}, {last - 1, true}, {last, true}, {last + 1, false}, {1 << 41, false}, {1<<63 - 1, false}, {1 << 63, false}, {1<<63 + 3, false}, {math.MaxUint64, false}} {
			binary.LittleEndian.PutUint64(b[at:], x.n)
			if wantDecode(t, summed(b)) != x.want {
				t.Errorf("18.1: the number %d at %d: %t", x.n, at, !x.want)
			}
		}
	}
}

// 18.1: a sum in another order of its bytes, of more bytes or of fewer is none.
func TestDecodeSum(t *testing.T) {
	b := form(theSlot)
	turned := slices.Clone(b)
	slices.Reverse(turned[508:])
	nothing := slices.Clone(b)
	clear(nothing[508:])
	if wantDecode(t, turned) || wantDecode(t, nothing) {
		t.Error("18.1: a slot with another sum")
	}
}

// 18.1: bytes by chance, with and without the sum that belongs to them, and slots with some bytes laid over.
func TestDecodeChance(t *testing.T) {
	c := newChance(1813)
	sound := 0
	for range 30000 {
		b := make([]byte, 512)
		c.Read(b)
		if c.Intn(4) > 0 {
			b = form(c.any())
		}
		for range c.Intn(4) {
			b[c.Intn(160)] = byte(c.Intn(256))
		}
		if c.Intn(2) == 0 {
			copy(b, "kiln")
		}
		if c.Intn(4) > 0 {
			b = summed(b)
		}
		if wantDecode(t, b) {
			sound++
		}
	}
	if sound < 1000 {
		t.Errorf("but %d slots", sound)
	}
}
