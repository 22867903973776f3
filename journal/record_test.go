package journal

import (
	"bytes"
	"encoding/binary"
	"math"
	"reflect"
	"slices"
	"testing"

	"kiln/api"
)

// wantEncode: what 17.1 says of a record, and, where it has a form, that it is read back.
func wantEncode(t *testing.T, r api.Record, want api.Errno) {
	t.Helper()
	plain, err := encodePlainly(r)
	if err != want {
		t.Fatalf("%v is %d, not %d", r, err, want)
	}
	b, err := Encode(r)
	if err != want || !bytes.Equal(b, plain) {
		t.Errorf("17.1: Encode(%v): %x, %d, want %x, %d", r, b, err, plain, want)
	}
	if want != api.OK {
		return
	}
	if back, err := Decode(b); err != api.OK || !reflect.DeepEqual(back, r) {
		t.Errorf("17.2: Decode of Encode(%v): %v, %d", r, back, err)
	}
}

// 17.1, 17.2: the form of records of all kinds, and back.
func TestForm(t *testing.T) {
	c := newChance(171)
	for _, num := range []int{0, 1, 255, 256, 1 << 31, 1<<32 - 1, 1 << 32, last - 1, last} {
		for count := 1; count <= 8; count++ {
			refs := make([]api.Ref, count)
			wantEncode(t, api.Record{Num: num, Refs: refs}, api.OK)
			for range 20 {
				r := c.record(num)
				wantEncode(t, r, api.OK)
			}
		}
	}
	for range 20000 {
		wantEncode(t, c.record(c.edge(last)), api.OK)
	}
}

// 17.1: a number outside 0 to MaxCount.
func TestFormNumber(t *testing.T) {
	c := newChance(1711)
	for _, num := range append([]int{last + 1, last + 2, 2 * last, 3 * last}, far...) {
		wantEncode(t, c.record(num), api.ErrLast)
	}
}

// 17.1: no references, and more than MaxOuts, also as many as come back inside in a byte.
func TestFormCount(t *testing.T) {
	for _, count := range []int{0, 9, 10, 16, 255, 256, 257, 264, 1 << 16, 1<<16 + 1} {
		wantEncode(t, api.Record{Num: 3, Refs: make([]api.Ref, count)}, api.ErrRefs)
	}
	wantEncode(t, api.Record{Num: 3, Refs: []api.Ref{}}, api.ErrRefs)
}

// 17.1: First and Len at their bounds and outside, in each place.
func TestFormRefs(t *testing.T) {
	for count := 1; count <= 8; count++ {
		for i := range count {
			for _, x := range []struct {
				first, length int
				want          api.Errno
			}{
				{0, 0, api.OK}, {65535, 262144, api.OK}, {65536, 0, api.ErrRefs}, {0, 262145, api.ErrRefs}, {-1, 0, api.ErrRefs}, {0, -1, api.ErrRefs},
				{262144, 65535, api.ErrRefs}, {1 << 32, 0, api.ErrRefs}, {0, 1 << 32, api.ErrRefs}, {1<<32 + 20, 300, api.ErrRefs}, {20, 1<<32 + 300, api.ErrRefs},
			} {
				r := api.Record{Refs: make([]api.Ref, count)}
				r.Refs[i].First, r.Refs[i].Len = x.first, x.length
				wantEncode(t, r, x.want)
			}
			for _, n := range far {
				r := api.Record{Refs: make([]api.Ref, count)}
				r.Refs[i].First = n
				wantEncode(t, r, api.ErrRefs)
				r.Refs[i].First, r.Refs[i].Len = 0, n
				wantEncode(t, r, api.ErrRefs)
			}
		}
	}
}

// 17.1: the number is looked at ahead of the references.
func TestFormOrder(t *testing.T) {
	for _, num := range []int{-1, last + 1, math.MinInt, math.MaxInt} {
		for _, refs := range [][]api.Ref{nil, make([]api.Ref, 9), {{First: -1}}, {{Len: 262145}}} {
			wantEncode(t, api.Record{Num: num, Refs: refs}, api.ErrLast)
		}
	}
}

// wantDecode: what 17.2 says of bytes; whether they are a record's.
func wantDecode(t *testing.T, b []byte) bool {
	t.Helper()
	want, wantErr := decodePlainly(b)
	r, err := Decode(b)
	if err != wantErr || !reflect.DeepEqual(r, want) {
		t.Fatalf("17.2: Decode(%x): %v, %d, want %v, %d", b, r, err, want, wantErr)
	}
	if err != api.OK {
		return false
	}
	if back, err := Encode(r); err != api.OK || !bytes.Equal(back, b) {
		t.Fatalf("17.2: Encode of Decode(%x): %x, %d", b, back, err)
	}
	return true
}

// 17.2: bytes of other lengths, also those that begin as a record, or end as one.
func TestDecodeLength(t *testing.T) {
	b := form(newChance(172).record(3))
	long := slices.Concat(b, b, b)
	for n := range len(long) + 1 {
		if wantDecode(t, long[:n]) != (n == 512) {
			t.Errorf("17.2: %d bytes", n)
		}
	}
	for n := range 512 {
		if wantDecode(t, b[n:]) != (n == 0) {
			t.Errorf("17.2: without the first %d bytes", n)
		}
	}
	if wantDecode(t, nil) || wantDecode(t, make([]byte, 512)) || wantDecode(t, summed(make([]byte, 512))) {
		t.Error("17.2: nothing, or zeros, are a record")
	}
}

// 17.2, 17.10: each bit of a record turned over makes it none; with the sum that belongs to it, it is none where it may not be, else another record.
func TestDecodeBits(t *testing.T) {
	c := newChance(1721)
	for count := 1; count <= 8; count++ {
		r := c.record(c.Intn(last))
		for len(r.Refs) != count {
			r = c.record(c.Intn(last))
		}
		b := form(r)
		for bit := range 4096 {
			b[bit/8] ^= 1 << (bit % 8)
			if wantDecode(t, b) {
				t.Fatalf("17.10: a record of %d references with the bit %d turned over", count, bit)
			}
			if bit < 8*508 {
				free := bit/8 >= 12 && bit/8 < 44 // those of the print
				if sound := wantDecode(t, summed(b)); free && !sound || (bit < 32 || bit >= 8*(45+40*count)) && sound {
					t.Fatalf("17.2: a record of %d references, bit %d turned over, and summed: %t", count, bit, sound)
				}
			}
			b[bit/8] ^= 1 << (bit % 8)
		}
	}
}

// 17.2: every count that a byte may have, over references that are there and such that are not.
func TestDecodeCount(t *testing.T) {
	for have := 1; have <= 8; have++ {
		b := form(api.Record{Num: 3, Refs: make([]api.Ref, have)})
		full := slices.Clone(b)
		for i := 45; i < 45+40*have; i++ {
			full[i] = 1
		}
		for i := range have { // First and Len within their bounds
			binary.LittleEndian.PutUint64(full[45+40*i+32:], 1<<32+1)
		}
		for count := range 256 {
			b[44], full[44] = byte(count), byte(count)
			if wantDecode(t, summed(b)) != (count >= 1 && count <= 8) {
				t.Errorf("17.2: a count of %d over zeros", count)
			}
			if wantDecode(t, summed(full)) != (count >= have && count <= 8) {
				t.Errorf("17.2: a count of %d over %d references", count, have)
			}
		}
	}
}

// 17.2: numbers that eight bytes may have, and four.
func TestDecodeNumbers(t *testing.T) {
	b := form(api.Record{Refs: make([]api.Ref, 8)})
	for _, x := range []struct {
		num  uint64
		want bool
	}{{0, true}, {last, true}, {last + 1, false}, {1 << 41, false}, {1<<63 - 1, false}, {1 << 63, false}, {1<<63 + 3, false}, {math.MaxUint64, false}} {
		binary.LittleEndian.PutUint64(b[4:], x.num)
		if wantDecode(t, summed(b)) != x.want {
			t.Errorf("17.2: the number %d: %t", x.num, !x.want)
		}
	}
	for i := range 8 {
		for _, x := range []struct {
			first, length uint32
			want          bool
		}{{65535, 262144, true}, {65536, 0, false}, {0, 262145, false}, {1 << 31, 0, false}, {0, 1 << 31, false}, {math.MaxUint32, 0, false}, {0, math.MaxUint32, false}} {
			b := form(api.Record{Refs: make([]api.Ref, 8)})
			binary.LittleEndian.PutUint32(b[45+40*i+32:], x.first)
			binary.LittleEndian.PutUint32(b[45+40*i+36:], x.length)
			if wantDecode(t, summed(b)) != x.want {
				t.Errorf("17.2: First %d, Len %d: %t", x.first, x.length, !x.want)
			}
		}
	}
}

// 17.2: bytes by chance, with and without the sum that belongs to them, and records with some bytes laid over.
func TestDecodeChance(t *testing.T) {
	c := newChance(1722)
	sound := 0
	for range 20000 {
		b := make([]byte, 512)
		c.Read(b)
		if c.Intn(4) > 0 {
			b = form(c.record(c.edge(last)))
		}
		for range c.Intn(4) {
			b[c.Intn(512)] = byte(c.Intn(256))
		}
		if c.Intn(2) == 0 {
			copy(b, "work")
		}
		if c.Intn(4) > 0 {
			b = summed(b)
		}
		if wantDecode(t, b) {
			sound++
		}
	}
	if sound < 1000 {
		t.Errorf("but %d records", sound)
	}
}
