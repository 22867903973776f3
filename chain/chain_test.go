package chain

import (
	"bytes"
	"crypto/sha256"
	"encoding/binary"
	"fmt"
	"hash/crc32"
	"math"
	"math/rand"
	"slices"
	"testing"

	"kiln/api"
	"kiln/disk"
	"kiln/space"
)

// far: numbers outside everything, and such as come back inside if a width or a sign is lost.
var far = []int{math.MinInt, math.MinInt + 1, -1 << 32, -1<<32 + 10, -65536, -2, -1, 1 << 32, 1<<32 + 10, 1<<32 + 11, 1<<62 + 10, math.MaxInt - 1, math.MaxInt}

func madeDisk(t *testing.T, sectors int) *disk.Disk {
	t.Helper()
	d, err := disk.New(sectors)
	if err != api.OK {
		t.Fatal(err)
	}
	return d
}

func madeSpace(t *testing.T, from, to int) *space.Space {
	t.Helper()
	s, err := space.New(from, to)
	if err != api.OK {
		t.Fatal(err)
	}
	return s
}

// free: a space of the disk's numbers of which just these are free.
func free(t *testing.T, d *disk.Disk, numbers ...int) *space.Space {
	t.Helper()
	s := madeSpace(t, 0, d.Sectors())
	s.TakeAll(d.Sectors())
	for _, n := range numbers {
		s.Give(n)
	}
	return s
}

func random(r *rand.Rand, n int) []byte {
	b := make([]byte, n)
	r.Read(b)
	return b
}

// laid: the sector of a piece, as the chapter's table says it, with its sum over whatever else stands in it.
func laid(piece []byte, hash api.Key, place, next int) []byte {
	b := make([]byte, 512)
	binary.LittleEndian.PutUint32(b[0:], uint32(next))
	binary.LittleEndian.PutUint16(b[4:], uint16(len(piece)))
	binary.LittleEndian.PutUint32(b[8:], uint32(place))
	copy(b[12:20], hash[:8])
	copy(b[28:508], piece)
	return summed(b)
}

// summed: those bytes with the sum that belongs to them.
func summed(b []byte) []byte {
	b = slices.Clone(b)
	binary.LittleEndian.PutUint32(b[508:], crc32.ChecksumIEEE(b[:508]))
	return b
}

// cut: the pieces of a byte string.
func cut(b []byte) [][]byte {
	pieces := [][]byte{}
	for len(b) > 480 {
		pieces = append(pieces, b[:480])
		b = b[480:]
	}
	return append(pieces, b)
}

// chained: the sectors of a byte string's chain that lies at these numbers.
func chained(b []byte, numbers []int) [][]byte {
	var list [][]byte
	hash := api.Key(sha256.Sum256(b))
	for k, piece := range cut(b) {
		next := 0
		if k+1 < len(numbers) {
			next = numbers[k+1]
		}
		list = append(list, laid(piece, hash, k, next))
	}
	return list
}

// layOut writes a chain by hand: its ref.
func layOut(t *testing.T, d *disk.Disk, b []byte, numbers ...int) api.Ref {
	t.Helper()
	for k, s := range chained(b, numbers) {
		write(t, d, numbers[k], s)
	}
	return api.Ref{Hash: sha256.Sum256(b), First: numbers[0], Len: len(b)}
}

func write(t *testing.T, d *disk.Disk, n int, b []byte) {
	t.Helper()
	if err := d.Write(n, b); err != api.OK {
		t.Fatalf("Write(%d): %d", n, err)
	}
}

func read(t *testing.T, d *disk.Disk, n int) []byte {
	t.Helper()
	b, err := d.Read(n)
	if err != api.OK {
		t.Fatalf("Read(%d): %d", n, err)
	}
	return b
}

// content: what is read of each sector.
func content(t *testing.T, d *disk.Disk) [][]byte {
	t.Helper()
	list := make([][]byte, d.Sectors())
	for n := range list {
		list[n] = read(t, d, n)
	}
	return list
}

// story: what a reader does, told whole.
type story struct {
	numbers []int
	bytes   []byte
	broken  int
	err     api.Errno
}

// told: what the chapter says of a reader of these sectors.
func told(sectors [][]byte, heap int, ref api.Ref) story {
	pieces := max(1, (ref.Len+479)/480)
	var s story
	var all []byte
	n := ref.First
	for k := range pieces {
		s.numbers = append(s.numbers, n)
		b := sectors[n]
		size := min(480, ref.Len-480*k)
		next := int(binary.LittleEndian.Uint32(b))
		ok := bytes.Equal(b, laid(b[28:28+size], ref.Hash, k, next))
		if k == pieces-1 {
			ok = ok && next == 0
		} else {
			ok = ok && next >= heap && next < len(sectors) && !slices.Contains(s.numbers, next)
		}
		if !ok {
			s.broken, s.err = n, api.ErrBroken
			return s
		}
		all = append(all, b[28:28+size]...)
		n = next
	}
	if sha256.Sum256(all) != ref.Hash {
		s.broken, s.err = ref.First, api.ErrBroken
		return s
	}
	s.bytes = all
	return s
}

// wantStory: a reader, stepped by single acts, does just that, and Get tells the same.
func wantStory(t *testing.T, d *disk.Disk, heap int, ref api.Ref, want story) {
	t.Helper()
	r, err := NewReader(d, heap, ref)
	if err != api.OK {
		t.Fatalf("NewReader(%d, %v): %d", heap, ref, err)
	}
	acts := d.Acts()
	wantReader(t, d, r, acts, nil, story{})
	for k := range want.numbers {
		ended, err := r.Step()
		if k < len(want.numbers)-1 {
			if ended || err != api.OK {
				t.Fatalf("Step %d: %t, %d, want false and OK", k, ended, err)
			}
			wantReader(t, d, r, acts, want.numbers[:k+1], story{})
			continue
		}
		if !ended || err != want.err {
			t.Fatalf("last Step: %t, %d, want true, %d", ended, err, want.err)
		}
	}
	for range 2 {
		wantReader(t, d, r, acts, want.numbers, want)
		if ended, err := r.Step(); !ended || err != want.err {
			t.Fatalf("Step behind the end: %t, %d, want true, %d", ended, err, want.err)
		}
	}
	b, n, err := Get(d, heap, ref)
	if !bytes.Equal(b, want.bytes) || n != want.broken || err != want.err {
		t.Fatalf("Get: %d bytes, %d, %d, want %d bytes, %d, %d", len(b), n, err, len(want.bytes), want.broken, want.err)
	}
}

// wantReader: what a reader tells, and that it has done a Read a number since acts and nothing else.
func wantReader(t *testing.T, d *disk.Disk, r *Reader, acts api.Acts, numbers []int, want story) {
	t.Helper()
	if !slices.Equal(r.Numbers(), numbers) || r.Done() != len(numbers) {
		t.Fatalf("Numbers() = %v, Done() = %d, want %v", r.Numbers(), r.Done(), numbers)
	}
	if !bytes.Equal(r.Bytes(), want.bytes) || r.Broken() != want.broken {
		t.Fatalf("Bytes() has %d bytes, Broken() = %d, want %d, %d", len(r.Bytes()), r.Broken(), len(want.bytes), want.broken)
	}
	acts.Reads += len(numbers)
	if d.Acts() != acts {
		t.Fatalf("acts %v, want %v", d.Acts(), acts)
	}
}

// TestExamples: the table of the chapter.
func TestExamples(t *testing.T) {
	for _, x := range [][2]int{{0, 1}, {480, 1}, {481, 2}, {1048576, 2185}, {-1, 0}} {
		if n := Sectors(x[0]); n != x[1] {
			t.Errorf("Sectors(%d) = %d, want %d", x[0], n, x[1])
		}
	}
	d, s := madeDisk(t, 20), madeSpace(t, 10, 20)
	b := random(rand.New(rand.NewSource(1)), 500)
	w, err := NewWriter(d, s, b)
	if err != api.OK || !slices.Equal(w.Numbers(), []int{10, 11}) || w.Done() != 0 {
		t.Fatalf("NewWriter: %d, %v, %d", err, w.Numbers(), w.Done())
	}
	for i, want := range []bool{false, true, true} {
		if ended, err := w.Step(); ended != want || err != api.OK {
			t.Errorf("Step %d: %t, %d", i, ended, err)
		}
	}
	if d.Acts() != (api.Acts{Writes: 2}) {
		t.Errorf("acts %v", d.Acts())
	}
	r, err := NewReader(d, 10, w.Ref())
	if err != api.OK {
		t.Fatal(err)
	}
	for i, want := range []bool{false, true} {
		if ended, err := r.Step(); ended != want || err != api.OK {
			t.Errorf("Step %d: %t, %d", i, ended, err)
		}
	}
	if !bytes.Equal(r.Bytes(), b) {
		t.Error("Bytes() is not what was written")
	}
	short, below := w.Ref(), w.Ref()
	short.Len, below.Len = 400, -1
	for _, x := range []struct {
		heap int
		ref  api.Ref
		n    int
		err  api.Errno
	}{{11, w.Ref(), 10, api.ErrBroken}, {10, short, 10, api.ErrBroken}, {0, w.Ref(), 0, api.ErrArg}, {10, below, 0, api.ErrLong}} {
		if b, n, err := Get(d, x.heap, x.ref); len(b) != 0 || n != x.n || err != x.err {
			t.Errorf("Get(%d, Len %d): %d bytes, %d, %d", x.heap, x.ref.Len, len(b), n, err)
		}
	}
	if ref, l, err := Put(d, s, make([]byte, 4000)); ref != (api.Ref{}) || len(l) != 0 || err != api.ErrNoSpace || s.Free() != 8 {
		t.Errorf("Put of 4000 bytes: %v, %v, %d, %d free", ref, l, err, s.Free())
	}
	edge := madeSpace(t, 19, 25)
	if ref, l, err := Put(d, edge, b); ref != (api.Ref{}) || len(l) != 0 || err != api.ErrSector || edge.Free() != 6 {
		t.Errorf("Put at the edge: %v, %v, %d, %d free", ref, l, err, edge.Free())
	}
	_, l, err := Put(d, s, nil)
	if err != api.OK || !slices.Equal(l, []int{12}) {
		t.Fatalf("Put of nothing: %v, %d", l, err)
	}
	none := make([]byte, 512)
	copy(none[12:], []byte{0xe3, 0xb0, 0xc4, 0x42, 0x98, 0xfc, 0x1c, 0x14})
	if got := read(t, d, 12); !bytes.Equal(got, summed(none)) {
		t.Errorf("sector of nothing: %x", got)
	}
}

// Test6_1Sectors: of every length there is, and of many that there are not.
func Test6_1Sectors(t *testing.T) {
	want, room := 1, 480
	for n := 0; n <= 1048576; n++ {
		if n > room {
			want, room = want+1, room+480
		}
		if k := Sectors(n); k != want {
			t.Fatalf("Sectors(%d) = %d, want %d", n, k, want)
		}
	}
	if want != 2185 {
		t.Errorf("%d sectors at most", want)
	}
	for _, n := range append(slices.Clone(far), -480, -479, 1048577, 1048577+480, 1<<32+480, math.MaxInt-479, math.MaxInt-480) {
		if k := Sectors(n); k != 0 {
			t.Errorf("Sectors(%d) = %d", n, k)
		}
	}
}

// soundLengths: of no piece full, of one just full, of one more, of many, of the most.
var soundLengths = []int{0, 1, 2, 479, 480, 481, 500, 959, 960, 961, 4800, 1048320, 1048321, 1048575, 1048576}

// soundPlaces: the first, the last and some places between.
func soundPlaces(length int) []int {
	last := max(1, (length+479)/480) - 1
	l := []int{0, 1, last / 2, 256, last - 1, last}
	slices.Sort(l)
	return slices.DeleteFunc(slices.Compact(l), func(k int) bool { return k < 0 || k > last })
}

// Test6_1Sound: what the table says is sound, with any bytes as the piece; with other arguments it is not.
func Test6_1Sound(t *testing.T) {
	r := rand.New(rand.NewSource(61))
	for _, length := range soundLengths {
		last := max(1, (length+479)/480) - 1
		for _, place := range soundPlaces(length) {
			ref := api.Ref{First: r.Intn(1000), Len: length}
			r.Read(ref.Hash[:])
			nexts := []int{1, 2, 255, 256, 4096, 65534, 65535}
			if place == last {
				nexts = []int{0}
			}
			for _, next := range nexts {
				b := laid(random(r, min(480, length-480*place)), ref.Hash, place, next)
				wantSound(t, b, ref, place, next)
			}
			for _, next := range append([]int{0, 1, 10, 65535, 65536, 65537, 131072}, far...) {
				if may := next >= 1 && next <= 65535; place < last && may || place == last && next == 0 {
					continue
				}
				b := laid(random(r, min(480, length-480*place)), ref.Hash, place, next)
				if Sound(b, ref, place, next) {
					t.Errorf("length %d, place %d: sound with next %d", length, place, next)
				}
			}
		}
	}
}

// wantSound: b is sound, whatever ref has that no sector tells, and not with any other argument.
func wantSound(t *testing.T, b []byte, ref api.Ref, place, next int) {
	t.Helper()
	if !Sound(b, ref, place, next) {
		t.Fatalf("length %d, place %d, next %d: not sound", ref.Len, place, next)
	}
	other := ref
	other.First, other.Hash[8], other.Hash[31] = -7, ref.Hash[8]^1, ref.Hash[31]^128
	if !Sound(b, other, place, next) {
		t.Errorf("length %d, place %d: not sound for what no sector tells", ref.Len, place)
	}
	for i := range 8 {
		other := ref
		other.Hash[i] ^= 1 << (i % 8)
		if Sound(b, other, place, next) {
			t.Errorf("length %d, place %d: sound with another byte %d of the hash", ref.Len, place, i)
		}
	}
	for _, p := range append([]int{place - 1, place + 1, place ^ 256, place + 1<<32, place - 1<<32}, far...) {
		if Sound(b, ref, p, next) {
			t.Errorf("length %d: the sector of place %d is sound at %d", ref.Len, place, p)
		}
	}
	for _, n := range append([]int{next - 1, next + 1, next ^ 256, next + 1<<32, next - 1<<32, 0, 65536}, far...) {
		if n != next && Sound(b, ref, place, n) {
			t.Errorf("length %d, place %d: sound with next %d, names %d", ref.Len, place, n, next)
		}
	}
	for _, n := range []int{511, 513, 0, 508, 28, 1024} {
		c := append(slices.Clone(b), make([]byte, 512)...)[:n]
		if Sound(c, ref, place, next) {
			t.Errorf("length %d, place %d: %d bytes are sound", ref.Len, place, n)
		}
	}
	if Sound(nil, ref, place, next) {
		t.Error("nil is sound")
	}
}

// Test6_1SoundLength: a sector is sound only for the lengths of which it has just the piece of that place, as the last one or not.
func Test6_1SoundLength(t *testing.T) {
	ref := api.Ref{}
	full, part, none := make([]byte, 480), make([]byte, 20), []byte{}
	for length := -2; length <= 1600; length++ {
		ref.Len = length
		for place := -1; place <= 4; place++ {
			for _, next := range []int{0, 9} {
				for _, piece := range [][]byte{full, part, none} {
					pieces := max(1, (length+479)/480)
					want := length >= 0 && place >= 0 && place < pieces && (next == 0) == (place == pieces-1) && len(piece) == min(480, length-480*place)
					if got := Sound(laid(piece, ref.Hash, place, next), ref, place, next); got != want {
						t.Fatalf("length %d, place %d, next %d, piece of %d: %t", length, place, next, len(piece), got)
					}
				}
			}
		}
	}
	for _, length := range append([]int{1048577, 1048576 + 480}, far...) {
		ref.Len = length
		for _, place := range []int{0, 1, 2184, 2185, 2186} {
			for _, next := range []int{0, 9} {
				if Sound(laid(full, ref.Hash, place, next), ref, place, next) {
					t.Errorf("length %d, place %d: sound", length, place)
				}
			}
		}
	}
}

// Test6_1SoundBytes: every byte of the sector counts: as it is, and with the sum that belongs to the wrong bytes. (Bytes of the piece itself may be any, if the sum is theirs.)
func Test6_1SoundBytes(t *testing.T) {
	r := rand.New(rand.NewSource(611))
	for _, x := range []struct{ length, place, next int }{{0, 0, 0}, {5, 0, 0}, {480, 0, 0}, {481, 0, 300}, {481, 1, 0}, {1000, 1, 65535}} {
		ref := api.Ref{Len: x.length}
		r.Read(ref.Hash[:])
		size := min(480, x.length-480*x.place)
		b := laid(random(r, size), ref.Hash, x.place, x.next)
		for i := range b {
			for bit := range 8 {
				c := slices.Clone(b)
				c[i] ^= 1 << bit
				if Sound(c, ref, x.place, x.next) {
					t.Fatalf("%v: sound with the bit %d of the byte %d turned over", x, bit, i)
				}
				if i >= 508 {
					continue
				}
				if want := i >= 28 && i < 28+size; Sound(summed(c), ref, x.place, x.next) != want {
					t.Fatalf("%v: bit %d of the byte %d turned over, and summed: %t", x, bit, i, !want)
				}
			}
		}
	}
}

// Test6_2Refused: the errors in their order, each with nothing done and nothing taken.
func Test6_2Refused(t *testing.T) {
	d := madeDisk(t, 20)
	long, most := make([]byte, 1048577), make([]byte, 1048576)
	for _, x := range []struct {
		what     string
		d        *disk.Disk
		from, to int // 0, 0: no space
		b        []byte
		err      api.Errno
	}{
		{"no disk", nil, 10, 20, nil, api.ErrArg},
		{"no space", d, 0, 0, nil, api.ErrArg},
		{"neither", nil, 0, 0, nil, api.ErrArg},
		{"no disk, too long", nil, 10, 20, long, api.ErrArg},
		{"no space, too long", d, 0, 0, long, api.ErrArg},
		{"no disk, too few", nil, 10, 12, make([]byte, 961), api.ErrArg},
		{"too long, too few", d, 10, 20, long, api.ErrLong},
		{"too long, sectors that are none", d, 0, 65536, long, api.ErrLong},
		{"too few", d, 10, 20, most, api.ErrNoSpace},
		{"too few by one", d, 10, 12, make([]byte, 961), api.ErrNoSpace},
		{"too few, with 0", d, 0, 2, make([]byte, 961), api.ErrNoSpace},
		{"too few, behind the disk", d, 20, 22, make([]byte, 961), api.ErrNoSpace},
		{"0", d, 0, 20, nil, api.ErrSector},
		{"0 of two", d, 0, 20, make([]byte, 481), api.ErrSector},
		{"behind the disk", d, 20, 22, nil, api.ErrSector},
		{"far behind the disk", d, 65535, 65536, nil, api.ErrSector},
		{"the last one behind the disk", d, 18, 22, make([]byte, 961), api.ErrSector},
		{"all of a chain too many", d, 1, 65536, most, api.ErrSector},
	} {
		acts := d.Acts()
		var s *space.Space
		var list []int
		if x.to > 0 {
			s = madeSpace(t, x.from, x.to)
			list = s.List()
		}
		w, err := NewWriter(x.d, s, x.b)
		if w != nil || err != x.err {
			t.Errorf("%s: NewWriter: %v, %d, want nil, %d", x.what, w, err, x.err)
		}
		ref, l, err := Put(x.d, s, x.b)
		if ref != (api.Ref{}) || len(l) != 0 || err != x.err {
			t.Errorf("%s: Put: %v, %v, %d, want %d", x.what, ref, l, err, x.err)
		}
		if s != nil && !slices.Equal(s.List(), list) {
			t.Errorf("%s: free are %v, want %v", x.what, s.List(), list)
		}
		if d.Acts() != acts {
			t.Errorf("%s: acts %v", x.what, d.Acts())
		}
	}
}

// Test6_2Holes: of a space with holes it is the lowest free ones that count, for what is taken and for what is refused.
func Test6_2Holes(t *testing.T) {
	d := madeDisk(t, 20)
	s := madeSpace(t, 0, 30)
	for _, n := range []int{0, 2, 3, 5} {
		s.Claim(n)
	}
	w, err := NewWriter(d, s, make([]byte, 1441))
	if err != api.OK || !slices.Equal(w.Numbers(), []int{1, 4, 6, 7}) || s.Free() != 22 {
		t.Fatalf("NewWriter: %d, %v, %d free", err, w.Numbers(), s.Free())
	}
	if w, err := NewWriter(d, s, make([]byte, 480*13)); w != nil || err != api.ErrSector || s.Free() != 22 {
		t.Fatalf("13 sectors where 12 of the disk are free: %d, %d free", err, s.Free())
	}
	if w, err := NewWriter(d, s, make([]byte, 480*22+1)); w != nil || err != api.ErrNoSpace || s.Free() != 22 {
		t.Fatalf("23 sectors where 22 are free: %d, %d free", err, s.Free())
	}
	w, err = NewWriter(d, s, make([]byte, 480*12))
	if err != api.OK || w.Numbers()[0] != 8 || w.Numbers()[11] != 19 || !slices.Equal(s.List(), []int{20, 21, 22, 23, 24, 25, 26, 27, 28, 29}) {
		t.Fatalf("12 sectors: %d, %v", err, s.List())
	}
	if w, err := NewWriter(d, s, nil); w != nil || err != api.ErrSector {
		t.Fatalf("behind the disk's last sector: %d", err)
	}
	s.Give(0)
	if w, err := NewWriter(d, s, nil); w != nil || err != api.ErrSector || !s.Has(0) {
		t.Fatalf("0 is free again: %d", err)
	}
	s.Claim(0)
	s.Give(5)
	if w, err := NewWriter(d, s, nil); err != api.OK || !slices.Equal(w.Numbers(), []int{5}) {
		t.Fatalf("5 is free again: %d", err)
	}
}

// Test6_3: a sector a Step, the one that is due, as the table says; Ref and Numbers from the beginning on; nothing behind the end.
func Test6_3(t *testing.T) {
	r := rand.New(rand.NewSource(63))
	for _, length := range []int{0, 1, 479, 480, 481, 959, 960, 961, 5000} {
		d := madeDisk(t, 40)
		for n := range 40 {
			write(t, d, n, random(r, 512))
		}
		b := random(r, length)
		numbers := []int{1, 3, 4, 7, 11, 12, 13, 20, 30, 38, 39}[:len(cut(b))]
		s := free(t, d, numbers...)
		want := content(t, d)
		acts := d.Acts()
		w, err := NewWriter(d, s, b)
		if err != api.OK || s.Free() != 0 {
			t.Fatalf("length %d: NewWriter: %d, %d free", length, err, s.Free())
		}
		ref := api.Ref{Hash: sha256.Sum256(b), First: 1, Len: length}
		tells := func(done int) {
			t.Helper()
			if w.Ref() != ref || !slices.Equal(w.Numbers(), numbers) || w.Done() != done {
				t.Fatalf("length %d: %v, %v, %d", length, w.Ref(), w.Numbers(), w.Done())
			}
			acts.Writes += done
			if d.Acts() != acts {
				t.Fatalf("length %d: acts %v, want %v", length, d.Acts(), acts)
			}
			acts.Writes -= done
		}
		tells(0)
		for k, x := range chained(b, numbers) {
			if ended, err := w.Step(); ended != (k == len(numbers)-1) || err != api.OK {
				t.Fatalf("length %d: Step %d: %t, %d", length, k, ended, err)
			}
			tells(k + 1)
			want[numbers[k]] = x
			if !slices.EqualFunc(content(t, d), want, bytes.Equal) {
				t.Fatalf("length %d: other bytes on the disk behind Step %d", length, k)
			}
			acts.Reads += 40
		}
		for range 3 {
			if ended, err := w.Step(); !ended || err != api.OK {
				t.Fatalf("length %d: Step behind the end: %t, %d", length, ended, err)
			}
			tells(len(numbers))
		}
	}
}

// Test6_4: the errors of NewReader in their order, with Get's beside them, and no act.
func Test6_4(t *testing.T) {
	d := madeDisk(t, 20)
	ref := layOut(t, d, make([]byte, 500), 10, 11)
	long, least, most, low, high := ref, ref, ref, ref, ref
	long.Len, least.Len, most.Len, low.First, high.First = 1048577, -1, 1048576, 9, 20
	acts := d.Acts()
	for _, x := range []struct {
		what string
		d    *disk.Disk
		heap int
		ref  api.Ref
		err  api.Errno
	}{
		{"good", d, 10, ref, api.OK},
		{"the least heap", d, 1, ref, api.OK},
		{"the last sector", d, 19, api.Ref{First: 19}, api.OK},
		{"the longest", d, 10, most, api.OK},
		{"no disk", nil, 10, ref, api.ErrArg},
		{"no disk, nothing good", nil, -5, least, api.ErrArg},
		{"heap 0", d, 0, ref, api.ErrArg},
		{"heap 0, too long", d, 0, long, api.ErrArg},
		{"heap behind the disk", d, 21, ref, api.ErrArg},
		{"heap behind the disk, too long", d, 21, long, api.ErrArg},
		{"too long", d, 10, long, api.ErrLong},
		{"below 0", d, 10, least, api.ErrLong},
		{"too long, first outside", d, 11, long, api.ErrLong},
		{"too long, no heap sector", d, 20, long, api.ErrLong},
		{"first below the heap", d, 11, ref, api.ErrBroken},
		{"first just below the heap", d, 10, low, api.ErrBroken},
		{"first behind the disk", d, 10, high, api.ErrBroken},
		{"no heap sector", d, 20, ref, api.ErrBroken},
		{"no heap sector, first behind them", d, 20, high, api.ErrBroken},
		{"first 0", d, 1, api.Ref{Len: 3}, api.ErrBroken},
	} {
		wantRefused(t, x.what, x.d, x.heap, x.ref, x.err)
	}
	for _, n := range far {
		first, length := ref, ref
		first.First, length.Len = n, n
		wantRefused(t, fmt.Sprint("heap ", n), d, n, ref, api.ErrArg)
		wantRefused(t, fmt.Sprint("length ", n), d, 10, length, api.ErrLong)
		wantRefused(t, fmt.Sprint("first ", n), d, 10, first, api.ErrBroken)
	}
	if d.Acts() != acts {
		t.Errorf("acts %v, want %v", d.Acts(), acts)
	}
}

func wantRefused(t *testing.T, what string, d *disk.Disk, heap int, ref api.Ref, want api.Errno) {
	t.Helper()
	r, err := NewReader(d, heap, ref)
	if err != want || (r == nil) != (want != api.OK) {
		t.Errorf("%s: NewReader: %v, %d, want %d", what, r, err, want)
	}
	if want == api.OK {
		return
	}
	n := 0
	if want == api.ErrBroken {
		n = ref.First
	}
	if b, m, err := Get(d, heap, ref); len(b) != 0 || m != n || err != want {
		t.Errorf("%s: Get: %d bytes, %d, %d, want %d, %d", what, len(b), m, err, n, want)
	}
}

// Test6_5Next: what a sector of a place may name as the next one; each is as it must be in all else.
func Test6_5Next(t *testing.T) {
	b := random(rand.New(rand.NewSource(65)), 1200)
	hash := api.Key(sha256.Sum256(b))
	for _, x := range []struct {
		what   string
		place  int // of the sector that names another than it should
		names  int
		broken int
	}{
		{"as it is", 0, 12, 0},
		{"the last one names none", 2, 0, 0},
		{"first: 0", 0, 0, 15},
		{"first: below the heap", 0, 9, 15},
		{"first: behind the disk", 0, 20, 15},
		{"first: far behind", 0, 65535, 15},
		{"first: no number of a sector", 0, 65536 + 12, 15},
		{"first: no number, the greatest", 0, 1<<32 - 1, 15},
		{"first: itself", 0, 15, 15},
		{"first: a free one", 0, 13, 13},
		{"second: 0", 1, 0, 12},
		{"second: itself", 1, 12, 12},
		{"second: the first one", 1, 15, 12},
		{"second: below the heap", 1, 1, 12},
		{"last: the first one", 2, 15, 10},
		{"last: itself", 2, 10, 10},
		{"last: a free one", 2, 13, 10},
		{"last: below the heap", 2, 9, 10},
		{"last: behind the disk", 2, 20, 10},
	} {
		d := madeDisk(t, 20)
		ref := layOut(t, d, b, 15, 12, 10)
		write(t, d, []int{15, 12, 10}[x.place], laid(cut(b)[x.place], hash, x.place, x.names))
		want := told(content(t, d), 10, ref)
		if want.broken != x.broken {
			t.Fatalf("%s: the sector %d should be told, not %d", x.what, x.broken, want.broken)
		}
		wantStory(t, d, 10, ref, want)
	}
}

// Test6_5Place: sound sectors of another place, of another hash, of another length are none of this chain.
func Test6_5Place(t *testing.T) {
	r := rand.New(rand.NewSource(655))
	b := random(r, 1200)
	hash, other := api.Key(sha256.Sum256(b)), api.Key(sha256.Sum256([]byte("other")))
	for what, x := range map[string]struct {
		n      int
		sector []byte
	}{
		"zeros":         {12, make([]byte, 512)},
		"another place": {12, laid(cut(b)[1], hash, 2, 10)},
		"another hash":  {12, laid(cut(b)[1], other, 1, 10)},
		"shorter":       {12, laid(cut(b)[1][:479], hash, 1, 10)},
		"the last one":  {10, laid(append(slices.Clone(cut(b)[2]), 0), hash, 2, 0)},
	} {
		d := madeDisk(t, 20)
		ref := layOut(t, d, b, 15, 12, 10)
		write(t, d, x.n, x.sector)
		want := told(content(t, d), 10, ref)
		if want.broken != x.n || want.err != api.ErrBroken {
			t.Fatalf("%s: %v", what, want)
		}
		wantStory(t, d, 10, ref, want)
	}
}

// Test6_5Hash: sectors that are all sound, and are not those of the hash: the first one is told, at the end.
func Test6_5Hash(t *testing.T) {
	b := random(rand.New(rand.NewSource(656)), 1200)
	for k, n := range []int{15, 12, 10} {
		d := madeDisk(t, 20)
		ref := layOut(t, d, b, 15, 12, 10)
		c := slices.Clone(b)
		c[480*k+3] ^= 1
		next := []int{12, 10, 0}[k]
		write(t, d, n, laid(cut(c)[k], ref.Hash, k, next))
		wantStory(t, d, 10, ref, story{numbers: []int{15, 12, 10}, broken: 15, err: api.ErrBroken})
	}
	for i := 8; i < 32; i++ {
		d := madeDisk(t, 20)
		ref := layOut(t, d, b, 15, 12, 10)
		ref.Hash[i] ^= 4
		wantStory(t, d, 10, ref, story{numbers: []int{15, 12, 10}, broken: 15, err: api.ErrBroken})
	}
}

// Test6_5End: what a reader has ended with it goes on to answer, though the disk is another by then.
func Test6_5End(t *testing.T) {
	b := random(rand.New(rand.NewSource(657)), 700)
	d := madeDisk(t, 20)
	ref := layOut(t, d, b, 10, 11)
	good, _ := NewReader(d, 10, ref)
	bad, _ := NewReader(d, 10, ref)
	good.Step()
	good.Step()
	d.Turn(10, 5)
	bad.Step()
	want := d.Acts()
	d.Turn(10, 5)
	d.Turn(11, 5)
	for range 3 {
		if ended, err := good.Step(); !ended || err != api.OK || !bytes.Equal(good.Bytes(), b) || good.Broken() != 0 || good.Done() != 2 {
			t.Errorf("ended OK, and then: %t, %d, %d", ended, err, good.Broken())
		}
		if ended, err := bad.Step(); !ended || err != api.ErrBroken || len(bad.Bytes()) != 0 || bad.Broken() != 10 || bad.Done() != 1 {
			t.Errorf("ended with ErrBroken, and then: %t, %d, %d", ended, err, bad.Broken())
		}
	}
	if d.Acts() != want {
		t.Errorf("acts %v, want %v", d.Acts(), want)
	}
}

// Test6_6: what a reader tells ahead of its first Step, on its way and at its end, of a chain of each length.
func Test6_6(t *testing.T) {
	r := rand.New(rand.NewSource(66))
	for _, length := range []int{0, 1, 479, 480, 481, 960, 961, 3000} {
		b := random(r, length)
		d := madeDisk(t, 30)
		numbers := append(r.Perm(20), 25)[:len(cut(b))]
		for i := range numbers {
			numbers[i] += 5
		}
		ref := layOut(t, d, b, numbers...)
		wantStory(t, d, 5, ref, story{numbers: numbers, bytes: b})
	}
}

// Test6_7: Put and Get are a writer's and a reader's Steps, and no act more.
func Test6_7(t *testing.T) {
	r := rand.New(rand.NewSource(67))
	d, e := madeDisk(t, 60), madeDisk(t, 60)
	s := madeSpace(t, 7, 60)
	for _, length := range []int{0, 5, 480, 481, 960, 2000, 9999} {
		b := random(r, length)
		pieces := len(cut(b))
		copied := s.Copy()
		acts, others := d.Acts(), e.Acts()
		ref, l, err := Put(d, s, b)
		acts.Writes += pieces
		if err != api.OK || d.Acts() != acts {
			t.Fatalf("Put of %d: %d, acts %v, want %v", length, err, d.Acts(), acts)
		}
		w, err := NewWriter(e, copied, b)
		if err != api.OK {
			t.Fatal(err)
		}
		for ended := false; !ended; {
			ended, _ = w.Step()
		}
		others.Writes += pieces
		if w.Ref() != ref || !slices.Equal(w.Numbers(), l) || w.Done() != len(l) || !slices.Equal(s.List(), copied.List()) || e.Acts() != others {
			t.Fatalf("Put of %d tells %v, %v; a writer %v, %v", length, ref, l, w.Ref(), w.Numbers())
		}
		acts = d.Acts()
		c, n, err := Get(d, 7, ref)
		acts.Reads += pieces
		if !bytes.Equal(c, b) || n != 0 || err != api.OK || d.Acts() != acts {
			t.Fatalf("Get of %d: %d bytes, %d, %d, acts %v, want %v", length, len(c), n, err, d.Acts(), acts)
		}
	}
	if !slices.EqualFunc(content(t, d), content(t, e), bytes.Equal) {
		t.Error("Put and a writer wrote other bytes")
	}
}

// Test6_8: what was put is got, among chains that are put and given back by chance, behind Flush and with any heap not above it.
func Test6_8(t *testing.T) {
	r := rand.New(rand.NewSource(68))
	for round := range 15 {
		d := madeDisk(t, 150)
		s := madeSpace(t, 1+r.Intn(20), 100+r.Intn(51))
		type kept struct {
			b       []byte
			ref     api.Ref
			numbers []int
		}
		var all []kept
		for range 80 {
			if len(all) > 0 && r.Intn(3) == 0 {
				i := r.Intn(len(all))
				for _, n := range all[i].numbers {
					s.Give(n)
				}
				all = slices.Delete(all, i, i+1)
				continue
			}
			b := random(r, r.Intn(6000))
			lowest := s.List()
			ref, l, err := Put(d, s, b)
			if pieces := len(cut(b)); pieces > len(lowest) {
				if err != api.ErrNoSpace {
					t.Fatalf("Put into too little: %d", err)
				}
				continue
			} else if err != api.OK || !slices.Equal(l, lowest[:pieces]) {
				t.Fatalf("round %d: Put: %d, %v of %v", round, err, l, lowest)
			}
			all = append(all, kept{b, ref, l})
			if r.Intn(5) == 0 {
				d.Flush()
			}
			for _, k := range all {
				for _, heap := range []int{1, 1 + r.Intn(k.ref.First), slices.Min(k.numbers)} {
					if c, n, err := Get(d, heap, k.ref); !bytes.Equal(c, k.b) || n != 0 || err != api.OK {
						t.Fatalf("round %d: Get(%d, %v): %d bytes, %d, %d", round, heap, k.ref, len(c), n, err)
					}
				}
			}
		}
	}
}

// Test6_8Most: the longest chain there is, on the greatest disk there is, and the highest sectors.
func Test6_8Most(t *testing.T) {
	d := madeDisk(t, 65536)
	s := madeSpace(t, 65536-2185, 65536)
	b := random(rand.New(rand.NewSource(688)), 1048576)
	ref, l, err := Put(d, s, b)
	if err != api.OK || len(l) != 2185 || l[0] != 65536-2185 || l[2184] != 65535 || s.Free() != 0 {
		t.Fatalf("Put: %d, %d sectors, %d free", err, len(l), s.Free())
	}
	for _, heap := range []int{1, l[0]} {
		if c, n, err := Get(d, heap, ref); !bytes.Equal(c, b) || n != 0 || err != api.OK {
			t.Fatalf("Get(%d): %d bytes, %d, %d", heap, len(c), n, err)
		}
	}
	d.Turn(65535, 100)
	if c, n, err := Get(d, l[0], ref); len(c) != 0 || n != 65535 || err != api.ErrBroken {
		t.Fatalf("Get: %d bytes, %d, %d", len(c), n, err)
	}
	d.Turn(65535, 100)
	slices.Reverse(l)
	if c, n, err := Get(d, 65536-2185, layOut(t, d, b, l...)); !bytes.Equal(c, b) || n != 0 || err != api.OK {
		t.Fatalf("Get of a falling one: %d bytes, %d, %d", len(c), n, err)
	}
}

// Test6_9: just the lowest free sectors are written, once each: a crash that takes the first write of each has all there is.
func Test6_9(t *testing.T) {
	r := rand.New(rand.NewSource(69))
	for range 40 {
		d := madeDisk(t, 50)
		for n := range 50 {
			write(t, d, n, random(r, 512))
		}
		d.Flush()
		numbers := r.Perm(49)[:20]
		for i := range numbers {
			numbers[i]++
		}
		s := free(t, d, numbers...)
		slices.Sort(numbers)
		b := random(r, r.Intn(20*480))
		pieces := len(cut(b))
		want := d.Image()
		for k, x := range chained(b, numbers[:pieces]) {
			want[numbers[k]] = x
		}
		if _, l, err := Put(d, s, b); err != api.OK || !slices.Equal(l, numbers[:pieces]) || d.Acts().Writes != 50+pieces {
			t.Fatalf("Put: %d, %v, %v", err, l, d.Acts())
		}
		if !slices.Equal(s.List(), numbers[pieces:]) {
			t.Fatalf("free are %v, want %v", s.List(), numbers[pieces:])
		}
		d.Crash(slices.Repeat([]int{1}, pieces)...)
		if !slices.EqualFunc(d.Image(), want, bytes.Equal) {
			t.Fatal("the disk has other bytes")
		}
	}
}

// Test6_10: each bit of each sector of a chain turned over alone, and two or three of one sector by chance, is told with that sector.
func Test6_10(t *testing.T) {
	r := rand.New(rand.NewSource(610))
	for _, length := range []int{0, 7, 480, 1100} {
		d := madeDisk(t, 20)
		b := random(r, length)
		ref, l, err := Put(d, madeSpace(t, 3, 20), b)
		if err != api.OK {
			t.Fatal(err)
		}
		spoil := func(k int, bits ...int) {
			t.Helper()
			turn := func() {
				for _, bit := range bits {
					d.Turn(l[k], bit)
				}
			}
			turn()
			defer turn()
			if c, n, err := Get(d, 3, ref); len(c) != 0 || n != l[k] || err != api.ErrBroken {
				t.Fatalf("length %d, sector %d, bits %v: %d bytes, %d, %d", length, l[k], bits, len(c), n, err)
			}
		}
		for k := range l {
			for bit := range 4096 {
				spoil(k, bit)
			}
			for range 2000 {
				first := r.Intn(4094)
				second := first + 1 + r.Intn(4094-first)
				spoil(k, first, second)
				spoil(k, first, second, second+1+r.Intn(4095-second))
			}
		}
		if c, n, err := Get(d, 3, ref); !bytes.Equal(c, b) || n != 0 || err != api.OK {
			t.Fatalf("length %d: as it was: %d bytes, %d, %d", length, len(c), n, err)
		}
	}
}

// Test6_11: disks laid out by chance, with chains that run into one another, into circles, below the heap and out of the disk: a reader does what the chapter says, and within its bounds.
func Test6_11(t *testing.T) {
	r := rand.New(rand.NewSource(6111))
	kinds := [3]int{}
	for range 20000 {
		sectors := 8 + r.Intn(8)
		heap := 1 + r.Intn(4)
		b := random(r, r.Intn(2500))
		if r.Intn(3) == 0 {
			b = make([]byte, 480*r.Intn(5))
		}
		pieces := cut(b)
		d := madeDisk(t, sectors)
		numbers := r.Perm(sectors)
		for len(numbers) < len(pieces) {
			numbers = append(numbers, 1)
		}
		numbers = numbers[:len(pieces)]
		ref := layOut(t, d, b, numbers...)
		for range r.Intn(3) {
			k := r.Intn(len(pieces))
			names := []int{0, numbers[r.Intn(len(pieces))], r.Intn(sectors + 3), heap, sectors - 1}[r.Intn(5)]
			if names == 0 && r.Intn(2) == 0 && k+1 < len(numbers) {
				names = numbers[k+1]
			}
			piece := slices.Clone(pieces[k])
			if r.Intn(4) == 0 && len(piece) > 0 {
				piece[0]++
			}
			at := numbers[k]
			if r.Intn(4) == 0 {
				at = r.Intn(sectors)
			}
			write(t, d, at, laid(piece, ref.Hash, k, names))
		}
		if ref.First < heap {
			if c, n, err := Get(d, heap, ref); len(c) != 0 || n != ref.First || err != api.ErrBroken {
				t.Fatalf("first below the heap: %d bytes, %d, %d", len(c), n, err)
			}
			kinds[0]++
			continue
		}
		want := told(content(t, d), heap, ref)
		wantStory(t, d, heap, ref, want)
		wantBounds(t, want, heap, sectors, ref)
		if want.err == api.OK {
			kinds[1]++
		} else {
			kinds[2]++
		}
	}
	for i, n := range kinds {
		if n < 1000 {
			t.Errorf("kind %d came but %d times", i, n)
		}
	}
}

// wantBounds: what 6.11 says of every reading.
func wantBounds(t *testing.T, s story, heap, sectors int, ref api.Ref) {
	t.Helper()
	if len(s.numbers) > Sectors(ref.Len) {
		t.Fatalf("%d Steps of at most %d", len(s.numbers), Sectors(ref.Len))
	}
	sorted := slices.Sorted(slices.Values(s.numbers))
	if len(slices.Compact(slices.Clone(sorted))) != len(sorted) || sorted[0] < heap || sorted[len(sorted)-1] >= sectors {
		t.Fatalf("read were %v, heap %d, of %d sectors", s.numbers, heap, sectors)
	}
	if s.err == api.OK && (len(s.bytes) != ref.Len || sha256.Sum256(s.bytes) != ref.Hash) {
		t.Fatal("bytes that are none of ref's")
	}
}

// Test6_11Noise: sectors of bytes by chance, and refs by chance, end at the first one.
func Test6_11Noise(t *testing.T) {
	r := rand.New(rand.NewSource(6112))
	d := madeDisk(t, 50)
	for n := range 50 {
		write(t, d, n, random(r, 512))
	}
	for range 300 {
		ref := api.Ref{First: 10 + r.Intn(40), Len: r.Intn(1048577)}
		r.Read(ref.Hash[:])
		wantStory(t, d, 10, ref, story{numbers: []int{ref.First}, broken: ref.First, err: api.ErrBroken})
	}
}

// Test6_12Writers: writers over one space, stepped by turns, have nothing in common, and each chain is whole.
func Test6_12Writers(t *testing.T) {
	r := rand.New(rand.NewSource(612))
	for range 50 {
		d := madeDisk(t, 60)
		s := madeSpace(t, 1, 60)
		var writers []*Writer
		var all [][]byte
		for range 2 + r.Intn(3) {
			b := random(r, r.Intn(5000))
			if len(all) > 0 && r.Intn(3) == 0 {
				b = all[0] // the same bytes make two chains all the same
			}
			w, err := NewWriter(d, s, b)
			if err != api.OK {
				t.Fatal(err)
			}
			writers, all = append(writers, w), append(all, b)
		}
		used := map[int]int{}
		for left := len(writers); left > 0; {
			w := writers[r.Intn(len(writers))]
			if w.Done() == len(w.Numbers()) {
				continue
			}
			if ended, err := w.Step(); err != api.OK {
				t.Fatal(err)
			} else if ended {
				left--
			}
		}
		for i, w := range writers {
			for _, n := range w.Numbers() {
				used[n]++
			}
			wantStory(t, d, 1, w.Ref(), story{numbers: w.Numbers(), bytes: all[i]})
		}
		for n, times := range used {
			if times > 1 {
				t.Fatalf("the sector %d is in %d chains", n, times)
			}
		}
		if s.Free() != 59-len(used) {
			t.Fatalf("%d free, %d used", s.Free(), len(used))
		}
	}
}

// Test6_12Reader: a sector is read when its Step comes: a reader just behind a writer reads the whole chain, one ahead of it does not.
func Test6_12Reader(t *testing.T) {
	b := random(rand.New(rand.NewSource(6122)), 2000)
	d := madeDisk(t, 20)
	w, err := NewWriter(d, madeSpace(t, 10, 20), b)
	if err != api.OK {
		t.Fatal(err)
	}
	behind, _ := NewReader(d, 10, w.Ref())
	ahead, _ := NewReader(d, 10, w.Ref())
	if ended, err := ahead.Step(); !ended || err != api.ErrBroken || ahead.Broken() != 10 {
		t.Errorf("ahead of the first Write: %t, %d, %d", ended, err, ahead.Broken())
	}
	for k := range 5 {
		w.Step()
		if ended, err := behind.Step(); ended != (k == 4) || err != api.OK {
			t.Fatalf("Step %d: %t, %d", k, ended, err)
		}
		// What was read may be another by now.
		write(t, d, 10+k, make([]byte, 512))
	}
	if !bytes.Equal(behind.Bytes(), b) {
		t.Error("other bytes")
	}
	if c, n, err := Get(d, 10, w.Ref()); len(c) != 0 || n != 10 || err != api.ErrBroken {
		t.Errorf("written over: %d bytes, %d, %d", len(c), n, err)
	}
}

// Test6_13Kept: what was handed in is another when the Steps come, or is not changed by them; what was answered may be scribbled over, with the room behind it.
func Test6_13Kept(t *testing.T) {
	r := rand.New(rand.NewSource(613))
	b := random(r, 1500)
	room := append(slices.Clone(b), random(r, 700)...)
	given := room[:1500]
	before := slices.Clone(room)
	d := madeDisk(t, 20)
	w, err := NewWriter(d, madeSpace(t, 10, 20), given)
	if err != api.OK {
		t.Fatal(err)
	}
	if !bytes.Equal(room, before) {
		t.Error("NewWriter changed what it was given")
	}
	clear(room)
	numbers := []int{10, 11, 12, 13}
	for range 4 {
		if l := w.Numbers(); !slices.Equal(l, numbers) {
			t.Fatalf("Numbers() = %v", l)
		} else {
			scribble(l)
		}
		w.Step()
	}
	rd, err := NewReader(d, 10, w.Ref())
	if err != api.OK {
		t.Fatal(err)
	}
	for k := range 4 {
		rd.Step()
		if l := rd.Numbers(); !slices.Equal(l, numbers[:k+1]) {
			t.Fatalf("Numbers() = %v", l)
		} else {
			scribble(l)
		}
	}
	for range 2 {
		c := rd.Bytes()
		if !bytes.Equal(c, b) {
			t.Fatal("Bytes() is not what was written")
		}
		clear(c[:cap(c)])
	}
	_, l, _ := Put(d, madeSpace(t, 1, 9), b)
	scribble(l)
	c, _, _ := Get(d, 10, w.Ref())
	clear(c[:cap(c)])
	if c, _, err := Get(d, 10, w.Ref()); !bytes.Equal(c, b) || err != api.OK {
		t.Error("what was answered is what is kept")
	}
	sector := laid(b[:100], w.Ref().Hash, 0, 0)
	same := slices.Clone(sector)
	Sound(sector[:512:512], api.Ref{Hash: w.Ref().Hash, Len: 100}, 0, 0)
	Sound(sector, api.Ref{Len: 5}, 0, 0)
	if !bytes.Equal(sector, same) {
		t.Error("Sound changed what it was given")
	}
}

func scribble(l []int) {
	l = l[:cap(l)]
	for i := range l {
		l[i] = -9
	}
}

// Test6_13Stepper: a writer and a reader go by api.Stepper, and by values that were asked for ahead.
func Test6_13Stepper(t *testing.T) {
	d := madeDisk(t, 20)
	w, _ := NewWriter(d, madeSpace(t, 10, 20), make([]byte, 1000))
	r, _ := NewReader(d, 10, w.Ref())
	for _, s := range []api.Stepper{w, r} {
		for k := range 4 {
			if ended, err := s.Step(); ended != (k >= 2) || err != api.OK {
				t.Errorf("Step %d: %t, %d", k, ended, err)
			}
		}
	}
	if w.Done() != 3 || r.Done() != 3 || len(r.Bytes()) != 1000 {
		t.Errorf("%d written, %d read", w.Done(), r.Done())
	}
}
