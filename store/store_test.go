package store

import (
	"bytes"
	"crypto/sha256"
	"encoding/binary"
	"hash/crc32"
	"math"
	"math/rand"
	"slices"
	"testing"

	"kiln/api"
	"kiln/chain"
	"kiln/disk"
	"kiln/space"
)

// far: numbers outside everything, and such as come back inside if a width or a sign is lost.
var far = []int{math.MinInt, math.MinInt + 1, -1 << 32, -1<<32 + 10, -65536, -2, -1, 1 << 32, 1<<32 + 10, 1<<32 + 11, 1<<62 + 10, math.MaxInt - 1, math.MaxInt}

func madeDisk(t *testing.T, sectors int) *disk.Disk {
	t.Helper()
	d, err := disk.New(sectors)
	if err != api.OK {
		t.Fatal(err)
	}
	return d
}

func madeSpace(t *testing.T, from, to int) *space.Space {
	t.Helper()
	s, err := space.New(from, to)
	if err != api.OK {
		t.Fatal(err)
	}
	return s
}

func madeStore(t *testing.T, d *disk.Disk, sp *space.Space) *Store {
	t.Helper()
	s, err := New(d, sp)
	if s == nil || err != api.OK {
		t.Fatalf("New: %v, %d", s, err)
	}
	return s
}

// shop: a store over a new disk and all of its sectors from from to to.
func shop(t *testing.T, sectors, from, to int) (*disk.Disk, *space.Space, *Store) {
	t.Helper()
	d, sp := madeDisk(t, sectors), madeSpace(t, from, to)
	return d, sp, madeStore(t, d, sp)
}

func random(r *rand.Rand, n int) []byte {
	b := make([]byte, n)
	r.Read(b)
	return b
}

// fill: n bytes x.
func fill(x byte, n int) []byte {
	return bytes.Repeat([]byte{x}, n)
}

// laid: the sector of a piece, as chapter 6's table says it.
func laid(piece []byte, hash api.Key, place, next int) []byte {
	b := make([]byte, 512)
	binary.LittleEndian.PutUint32(b[0:], uint32(next))
	binary.LittleEndian.PutUint16(b[4:], uint16(len(piece)))
	binary.LittleEndian.PutUint32(b[8:], uint32(place))
	copy(b[12:20], hash[:8])
	copy(b[28:508], piece)
	binary.LittleEndian.PutUint32(b[508:], crc32.ChecksumIEEE(b[:508]))
	return b
}

// chained: the sectors of a byte string's chain that lies at these numbers.
func chained(b []byte, numbers []int) [][]byte {
	var list [][]byte
	for k, n := range numbers {
		next := 0
		if k+1 < len(numbers) {
			next = numbers[k+1]
		}
		if n == 0 {
			panic("no chain has the sector 0")
		}
		list = append(list, laid(b[480*k:min(480*k+480, len(b))], sha256.Sum256(b), k, next))
	}
	return list
}

func refOf(b []byte, first int) api.Ref {
	return api.Ref{Hash: sha256.Sum256(b), First: first, Len: len(b)}
}

// layOut writes a chain by hand: its ref.
func layOut(t *testing.T, d *disk.Disk, b []byte, numbers ...int) api.Ref {
	t.Helper()
	if len(numbers) != max(1, (len(b)+479)/480) {
		t.Fatalf("%d sectors for %d bytes", len(numbers), len(b))
	}
	for k, s := range chained(b, numbers) {
		if err := d.Write(numbers[k], s); err != api.OK {
			t.Fatal(err)
		}
	}
	return refOf(b, numbers[0])
}

// known lays a chain out and makes it known.
func known(t *testing.T, d *disk.Disk, s *Store, b []byte, numbers ...int) api.Ref {
	t.Helper()
	ref := layOut(t, d, b, numbers...)
	if n, err := s.Know(ref); n != 0 || err != api.OK {
		t.Fatalf("Know(%v): %d, %d", ref, n, err)
	}
	return ref
}

func begun(t *testing.T, s *Store, b []byte) *Put {
	t.Helper()
	p, err := s.Put(b)
	if p == nil || err != api.OK {
		t.Fatalf("Put: %v, %d", p, err)
	}
	return p
}

// put puts a byte string whole: the put, ended OK.
func put(t *testing.T, s *Store, b []byte) *Put {
	t.Helper()
	p := begun(t, s, b)
	for {
		ended, err := p.Step()
		if err != api.OK {
			t.Fatalf("Step: %t, %d", ended, err)
		}
		if ended {
			return p
		}
	}
}

func wantStep(t *testing.T, p *Put, ended bool, want api.Errno) {
	t.Helper()
	if e, err := p.Step(); e != ended || err != want {
		t.Fatalf("Step: %t, %d, want %t, %d", e, err, ended, want)
	}
}

// wantPut: what is told of a put beside its Steps.
func wantPut(t *testing.T, p *Put, ref api.Ref, wrote bool, taken ...int) {
	t.Helper()
	if p.Ref() != ref || p.Wrote() != wrote || !slices.Equal(p.Taken(), taken) {
		t.Fatalf("Ref %v, Wrote %t, Taken %v, want %v, %t, %v", p.Ref(), p.Wrote(), p.Taken(), ref, wrote, taken)
	}
}

// wantActs: just so many Reads and Writes have been done since, and no Flush.
func wantActs(t *testing.T, d *disk.Disk, since api.Acts, reads, writes int) {
	t.Helper()
	if a := d.Acts(); a.Reads-since.Reads != reads || a.Writes-since.Writes != writes || a.Flushes != since.Flushes {
		t.Fatalf("%v since %v, want %d Reads and %d Writes", a, since, reads, writes)
	}
}

func wantCounts(t *testing.T, s *Store, sp *space.Space, held, spent, free int) {
	t.Helper()
	if s.Held() != held || s.Spent() != spent || sp.Free() != free {
		t.Fatalf("held %d, spent %d, free %d, want %d, %d, %d", s.Held(), s.Spent(), sp.Free(), held, spent, free)
	}
}

// wantStands: that chain stands for its hash.
func wantStands(t *testing.T, s *Store, ref api.Ref) {
	t.Helper()
	if at, ok := s.Find(ref.Hash); at != ref || !ok {
		t.Fatalf("Find: %v, %t, want %v", at, ok, ref)
	}
}

// wantUnknown: nothing is told of that chain.
func wantUnknown(t *testing.T, s *Store, ref api.Ref) {
	t.Helper()
	if at, ok := s.Find(ref.Hash); ok && at == ref || !ok && at != (api.Ref{}) {
		t.Fatalf("Find: %v, %t", at, ok)
	}
	if s.Uses(ref) != 0 || len(s.Sectors(ref)) != 0 || slices.Contains(s.Refs(), ref) {
		t.Fatalf("%v: %d uses, sectors %v", ref, s.Uses(ref), s.Sectors(ref))
	}
	if a, b := s.Use(ref), s.Drop(ref); a != api.ErrRef || b != api.ErrRef || s.Undo(ref) != api.ErrRef {
		t.Fatalf("%v: Use %d, Drop %d", ref, a, b)
	}
}

// turn turns a bit of a piece over.
func turn(t *testing.T, d *disk.Disk, n int) {
	t.Helper()
	if err := d.Turn(n, 8*40); err != api.OK {
		t.Fatal(err)
	}
}

func TestExamples(t *testing.T) {
	d, sp, s := shop(t, 16, 10, 16)
	a := begun(t, s, []byte("a"))
	wantStep(t, a, true, api.OK)
	wantPut(t, a, refOf([]byte("a"), 10), true, 10)
	b := begun(t, s, make([]byte, 500))
	wantStep(t, b, false, api.OK)
	wantStep(t, b, true, api.OK)
	wantPut(t, b, refOf(make([]byte, 500), 11), true, 11, 12)
	again, acts := begun(t, s, []byte("a")), d.Acts()
	wantStep(t, again, true, api.OK)
	wantPut(t, again, a.Ref(), false)
	wantActs(t, d, acts, 1, 0)
	if s.Uses(a.Ref()) != 2 {
		t.Errorf("%d uses", s.Uses(a.Ref()))
	}
	wantCounts(t, s, sp, 3, 0, 3)
	wantStep(t, begun(t, s, make([]byte, 2000)), true, api.ErrNoSpace)
	if err := s.Drop(b.Ref()); err != api.OK {
		t.Errorf("Drop: %d", err)
	}
	wantCounts(t, s, sp, 1, 2, 3)
	if n := s.Sweep(); n != 2 {
		t.Errorf("Sweep: %d", n)
	}
	wantCounts(t, s, sp, 1, 0, 5)
	if err := s.Drop(b.Ref()); err != api.ErrRef {
		t.Errorf("Drop again: %d", err)
	}
}

// Test7_1: what a store may not be made over; one that is made has nothing, and has done nothing.
func Test7_1(t *testing.T) {
	d := madeDisk(t, 16)
	zero := madeSpace(t, 0, 16)
	zero.Claim(0) // it is a number of the space all the same
	full := madeSpace(t, 1, 17)
	full.Claim(16)
	for name, over := range map[string]struct {
		d  *disk.Disk
		sp *space.Space
	}{
		"nothing":               {nil, nil},
		"no disk":               {nil, madeSpace(t, 1, 16)},
		"no space":              {d, nil},
		"from 0":                {d, zero},
		"from 0, a shorter one": {d, madeSpace(t, 0, 2)},
		"beyond the disk":       {d, full},
		"far beyond it":         {d, madeSpace(t, 16, 65536)},
		"both":                  {d, madeSpace(t, 0, 17)},
	} {
		if s, err := New(over.d, over.sp); s != nil || err != api.ErrArg {
			t.Errorf("%s: %v, %d", name, s, err)
		}
	}
	for _, sp := range []*space.Space{madeSpace(t, 1, 16), madeSpace(t, 1, 2), madeSpace(t, 15, 16), madeSpace(t, 5, 9)} {
		sp.Take()
		free, acts := sp.List(), d.Acts()
		s := madeStore(t, d, sp)
		wantCounts(t, s, sp, 0, 0, len(free))
		if len(s.Refs()) != 0 || s.Sweep() != 0 || !slices.Equal(sp.List(), free) {
			t.Errorf("%v known, %v free", s.Refs(), sp.List())
		}
		wantActs(t, d, acts, 0, 0)
	}
}

// Test7_2: a chain is read once, claimed and known; known already it is used once more, unread.
func Test7_2(t *testing.T) {
	d, sp, s := shop(t, 20, 10, 18)
	b := fill(7, 1000)
	ref := layOut(t, d, b, 16, 11, 14)
	acts := d.Acts()
	for k := range 3 {
		if n, err := s.Know(ref); n != 0 || err != api.OK {
			t.Fatalf("Know: %d, %d", n, err)
		}
		wantActs(t, d, acts, 3, 0)
		if s.Uses(ref) != k+1 || !slices.Equal(s.Sectors(ref), []int{16, 11, 14}) || !slices.Equal(s.Refs(), []api.Ref{ref}) {
			t.Fatalf("%d uses, sectors %v, refs %v", s.Uses(ref), s.Sectors(ref), s.Refs())
		}
		wantStands(t, s, ref)
		wantCounts(t, s, sp, 3, 0, 5)
	}
	if !slices.Equal(sp.List(), []int{10, 12, 13, 15, 17}) {
		t.Errorf("%v free", sp.List())
	}
	// Known it is not even looked at.
	turn(t, d, 11)
	if n, err := s.Know(ref); n != 0 || err != api.OK || s.Uses(ref) != 4 {
		t.Errorf("broken and known: %d, %d", n, err)
	}
	// Another one of that hash is known beside it, and does not stand for it.
	other := known(t, d, s, b, 10, 12, 17)
	wantStands(t, s, ref)
	if s.Uses(other) != 1 || s.Uses(ref) != 4 || s.Held() != 6 {
		t.Errorf("%d and %d uses, %d held", s.Uses(other), s.Uses(ref), s.Held())
	}
}

// wantUnlearnt: Know answers that, and nothing has changed.
func wantUnlearnt(t *testing.T, what string, s *Store, ref api.Ref, sector int, want api.Errno) {
	t.Helper()
	free, refs, held, spent := s.space.List(), s.Refs(), s.Held(), s.Spent()
	if n, err := s.Know(ref); n != sector || err != want {
		t.Errorf("%s: Know: %d, %d, want %d, %d", what, n, err, sector, want)
	}
	if !slices.Equal(s.space.List(), free) || !slices.Equal(s.Refs(), refs) || s.Held() != held || s.Spent() != spent {
		t.Errorf("%s: Know changed something", what)
	}
	wantUnknown(t, s, ref)
}

// Test7_2Refused: what chapter 6 does not read whole, and what is not free.
func Test7_2Refused(t *testing.T) {
	d, sp, s := shop(t, 24, 10, 20)
	ref := layOut(t, d, fill(1, 1000), 15, 12, 17)
	for _, n := range append([]int{1048577, -1}, far...) {
		wantUnlearnt(t, "a length", s, api.Ref{Hash: ref.Hash, First: 15, Len: n}, 0, api.ErrLong)
		wantUnlearnt(t, "a length, and nowhere", s, api.Ref{Hash: ref.Hash, First: -5, Len: n}, 0, api.ErrLong)
	}
	for _, n := range append([]int{0, 1, 9, 24, 25, 65536}, far...) {
		wantUnlearnt(t, "nowhere", s, api.Ref{Hash: ref.Hash, First: n, Len: 1000}, n, api.ErrBroken)
	}
	wantUnlearnt(t, "zeros", s, api.Ref{Hash: ref.Hash, First: 23, Len: 1000}, 23, api.ErrBroken)
	wantUnlearnt(t, "another length", s, api.Ref{Hash: ref.Hash, First: 15, Len: 999}, 17, api.ErrBroken)
	wantUnlearnt(t, "the second piece", s, api.Ref{Hash: ref.Hash, First: 12, Len: 1000}, 12, api.ErrBroken)
	likely := ref
	likely.Hash[31] ^= 1
	wantUnlearnt(t, "another hash in its end", s, likely, 15, api.ErrBroken)
	for _, n := range []int{15, 12, 17} {
		turn(t, d, n)
		wantUnlearnt(t, "a bit", s, ref, n, api.ErrBroken)
		turn(t, d, n)
	}
	for _, taken := range [][]int{{15}, {12}, {17}, {12, 17}, {12, 15}, {12, 15, 17}} {
		for _, n := range taken {
			sp.Claim(n)
		}
		first := taken[0]
		if slices.Contains(taken, 15) {
			first = 15 // the chain's order, not that of the numbers
		}
		wantUnlearnt(t, "not free", s, ref, first, api.ErrBroken)
		for _, n := range taken {
			sp.Give(n)
		}
	}
	// Broken and not free: what chapter 6 tells comes first.
	sp.Claim(15)
	turn(t, d, 17)
	wantUnlearnt(t, "a bit, and not free", s, ref, 17, api.ErrBroken)
	turn(t, d, 17)
	sp.Give(15)
	// On the disk, but no number of the space.
	wantUnlearnt(t, "behind the space", s, layOut(t, d, fill(2, 1000), 19, 20, 23), 20, api.ErrBroken)
	wantUnlearnt(t, "all behind the space", s, layOut(t, d, fill(2, 1), 23), 23, api.ErrBroken)
	wantUnlearnt(t, "ahead of it", s, layOut(t, d, fill(3, 500), 19, 9), 19, api.ErrBroken)
	if n, err := s.Know(ref); n != 0 || err != api.OK {
		t.Errorf("whole and free: %d, %d", n, err)
	}
}

// Test7_2Taken: a chain's sectors that are another's, a put's, or spent are not free.
func Test7_2Taken(t *testing.T) {
	d, _, s := shop(t, 24, 10, 24)
	b := fill(1, 960)
	first := known(t, d, s, b, 12, 13)
	// A chain may not have a sector of another one, whatever is read there.
	wantUnlearnt(t, "another's", s, layOut(t, d, fill(2, 900), 15, 13), 13, api.ErrBroken)
	layOut(t, d, b, 12, 13)
	p := begun(t, s, fill(3, 900)) // takes 10 and 11
	wantStep(t, p, false, api.OK)
	wantUnlearnt(t, "a put's, half written", s, refOf(fill(3, 900), 10), 11, api.ErrBroken)
	wantStep(t, p, true, api.OK)
	s.Drop(p.Ref())
	wantUnlearnt(t, "spent", s, p.Ref(), 10, api.ErrBroken)
	s.Sweep()
	if n, err := s.Know(p.Ref()); n != 0 || err != api.OK || s.Uses(p.Ref()) != 1 || s.Uses(first) != 1 {
		t.Errorf("swept: %d, %d", n, err)
	}
}

// Test7_3: uses are counted; with the last one away the sectors are spent by Drop, and free by Undo.
func Test7_3(t *testing.T) {
	for _, undo := range []bool{false, true} {
		d, sp, s := shop(t, 20, 10, 20)
		ref, other := known(t, d, s, fill(1, 1000), 16, 11, 14), known(t, d, s, fill(2, 1), 12)
		less := s.Drop
		if undo {
			less = s.Undo
		}
		for range 3 {
			if err := s.Use(ref); err != api.OK {
				t.Fatal(err)
			}
		}
		acts := d.Acts()
		for left := 3; left > 0; left-- {
			if err := less(ref); err != api.OK || s.Uses(ref) != left {
				t.Fatalf("%d, %d uses, want %d", err, s.Uses(ref), left)
			}
			wantCounts(t, s, sp, 4, 0, 6)
			wantStands(t, s, ref)
		}
		if err := less(ref); err != api.OK {
			t.Fatal(err)
		}
		wantUnknown(t, s, ref)
		if undo {
			wantCounts(t, s, sp, 1, 0, 9)
		} else {
			wantCounts(t, s, sp, 1, 3, 6)
		}
		wantActs(t, d, acts, 0, 0)
		if s.Uses(other) != 1 || !slices.Equal(s.Sectors(other), []int{12}) || !slices.Equal(s.Refs(), []api.Ref{other}) {
			t.Error("another chain is not as it was")
		}
	}
}

// Test7_3Ref: a chain is told by its ref: one that is like it in all but one thing is not known.
func Test7_3Ref(t *testing.T) {
	d, sp, s := shop(t, 20, 10, 20)
	ref := known(t, d, s, fill(1, 500), 13, 14)
	unlike := []api.Ref{{}, {Hash: ref.Hash, First: 14, Len: 500}, {Hash: ref.Hash, First: 13, Len: 501}, {First: 13, Len: 500}}
	for _, n := range far {
		unlike = append(unlike, api.Ref{Hash: ref.Hash, First: n, Len: 500}, api.Ref{Hash: ref.Hash, First: 13, Len: n})
	}
	for i := range 32 {
		r := ref
		r.Hash[i] ^= 0x80
		unlike = append(unlike, r)
	}
	for _, r := range unlike {
		wantUnknown(t, s, r)
		if at, ok := s.Find(r.Hash); ok != (r.Hash == ref.Hash) || ok && at != ref {
			t.Errorf("Find: %v, %t", at, ok)
		}
	}
	if s.Uses(ref) != 1 {
		t.Errorf("%d uses", s.Uses(ref))
	}
	wantCounts(t, s, sp, 2, 0, 8)
}

// Test7_3Stands: when the one that stands for a hash goes, the one stands that has been known longest.
func Test7_3Stands(t *testing.T) {
	b := []byte("twin")
	for _, undo := range []bool{false, true} {
		d, _, s := shop(t, 20, 10, 20)
		less := s.Drop
		if undo {
			less = s.Undo
		}
		var refs []api.Ref
		for _, n := range []int{14, 17, 11, 12} {
			refs = append(refs, known(t, d, s, b, n))
		}
		foreign := known(t, d, s, []byte("other"), 10)
		wantStands(t, s, refs[0])
		less(refs[1]) // it did not stand
		wantStands(t, s, refs[0])
		s.Sweep()
		if _, err := s.Know(refs[1]); err != api.OK { // known anew, it is the youngest
			t.Fatal(err)
		}
		s.Use(refs[2])
		for _, next := range []int{2, 3, 1} {
			at, _ := s.Find(refs[0].Hash)
			for range s.Uses(at) {
				wantStands(t, s, at)
				less(at)
			}
			wantStands(t, s, refs[next])
		}
		less(refs[1])
		if at, ok := s.Find(refs[0].Hash); ok || at != (api.Ref{}) {
			t.Errorf("none is known: %v, %t", at, ok)
		}
		wantStands(t, s, foreign)
		s.Sweep()
		if _, err := s.Know(refs[3]); err != api.OK {
			t.Fatal(err)
		}
		wantStands(t, s, refs[3])
	}
}

// Test7_4: the known chains are told by rising First, whatever order they came in.
func Test7_4(t *testing.T) {
	r := rand.New(rand.NewSource(74))
	d, _, s := shop(t, 300, 10, 300)
	var want []api.Ref
	for i, n := range r.Perm(290) {
		want = append(want, known(t, d, s, []byte{byte(i), byte(i >> 8)}, 10+n))
	}
	for len(want) > 0 {
		i := r.Intn(len(want))
		gone := want[i]
		want = slices.Delete(want, i, i+1)
		s.Drop(gone)
		wantUnknown(t, s, gone)
		if i%10 != 0 {
			continue
		}
		rising := slices.Clone(want)
		slices.SortFunc(rising, func(a, b api.Ref) int { return a.First - b.First })
		if !slices.Equal(s.Refs(), rising) {
			t.Fatalf("Refs: %v", s.Refs())
		}
		for _, ref := range want {
			wantStands(t, s, ref)
			if !slices.Equal(s.Sectors(ref), []int{ref.First}) {
				t.Fatalf("sectors %v of %v", s.Sectors(ref), ref)
			}
		}
	}
}

// Test7_5: what is held and spent, through all that a sector goes through.
func Test7_5(t *testing.T) {
	_, sp, s := shop(t, 30, 10, 30)
	p := begun(t, s, fill(1, 1500))
	wantCounts(t, s, sp, 0, 0, 20)
	for k := range 4 {
		wantStep(t, p, k == 3, api.OK)
		wantCounts(t, s, sp, 4, 0, 16)
	}
	q := begun(t, s, fill(1, 1500))
	for k := range 4 {
		wantStep(t, q, k == 3, api.OK)
		wantCounts(t, s, sp, 4, 0, 16)
	}
	left := begun(t, s, fill(2, 1000))
	wantStep(t, left, false, api.OK)
	wantCounts(t, s, sp, 7, 0, 13)
	left.Leave()
	wantCounts(t, s, sp, 4, 0, 16)
	one := put(t, s, fill(3, 1))
	wantCounts(t, s, sp, 5, 0, 15)
	s.Drop(one.Ref())
	s.Drop(p.Ref())
	wantCounts(t, s, sp, 4, 1, 15)
	s.Drop(p.Ref())
	wantCounts(t, s, sp, 0, 5, 15)
	if n := s.Sweep(); n != 5 {
		t.Errorf("Sweep: %d", n)
	}
	wantCounts(t, s, sp, 0, 0, 20)
	if n := s.Sweep(); n != 0 {
		t.Errorf("Sweep again: %d", n)
	}
	wantCounts(t, s, sp, 0, 0, 20)
}

// wantGot: Get, and a getter by single acts, do what chapter 6 does over this disk from the space's first sector on.
func wantGot(t *testing.T, d *disk.Disk, s *Store, ref api.Ref) {
	t.Helper()
	heap := s.space.From()
	want, at, wantErr := chain.Get(d, heap, ref)
	acts := d.Acts()
	if b, n, err := s.Get(ref); !bytes.Equal(b, want) || n != at || err != wantErr {
		t.Fatalf("Get(%v): %d bytes, %d, %d, want %d, %d, %d", ref, len(b), n, err, len(want), at, wantErr)
	}
	gotActs := d.Acts()
	r, wantErr := chain.NewReader(d, heap, ref)
	g, err := s.Getter(ref)
	if err != wantErr || (g == nil) != (r == nil) {
		t.Fatalf("Getter(%v): %v, %d, want %d", ref, g, err, wantErr)
	}
	if r == nil {
		wantActs(t, d, acts, 0, 0)
		return
	}
	for ended := false; ; {
		if !bytes.Equal(g.Bytes(), r.Bytes()) || g.Broken() != r.Broken() || !slices.Equal(g.Numbers(), r.Numbers()) || g.Done() != r.Done() {
			t.Fatalf("%v behind %d Reads: %v, %d, %d", ref, r.Done(), g.Numbers(), g.Done(), g.Broken())
		}
		if ended && r.Done() == gotActs.Reads-acts.Reads {
			break
		}
		e, wantErr := r.Step()
		now := d.Acts()
		if ended, err = g.Step(); ended != e || err != wantErr {
			t.Fatalf("Step: %t, %d, want %t, %d", ended, err, e, wantErr)
		}
		wantActs(t, d, now, 1, 0)
	}
	now := d.Acts()
	g.Step()
	wantActs(t, d, now, 0, 0)
}

// Test7_6: readings are chapter 6's, whether a chain is known or not, and wherever in the disk it lies.
func Test7_6(t *testing.T) {
	d, sp, s := shop(t, 40, 10, 20)
	refs := []api.Ref{
		put(t, s, nil).Ref(),
		put(t, s, fill(1, 1500)).Ref(),
		layOut(t, d, fill(2, 1000), 19, 15, 17),
		layOut(t, d, fill(3, 700), 38, 39), // behind the space, on the disk
		layOut(t, d, fill(4, 700), 16, 9),  // ahead of it
		layOut(t, d, fill(5, 10), 9),
		{}, {First: 30}, {First: 30, Len: 1048576}, {First: 30, Len: 1048577},
	}
	free := sp.List()
	for _, ref := range refs {
		wantGot(t, d, s, ref)
		for _, n := range far {
			wantGot(t, d, s, api.Ref{Hash: ref.Hash, First: n, Len: ref.Len})
			wantGot(t, d, s, api.Ref{Hash: ref.Hash, First: ref.First, Len: n})
		}
		for _, n := range []int{0, 9, 10, 39, 40} {
			wantGot(t, d, s, api.Ref{Hash: ref.Hash, First: n, Len: ref.Len})
		}
	}
	for n := range 40 {
		turn(t, d, n)
		for _, ref := range refs {
			wantGot(t, d, s, ref)
		}
		turn(t, d, n)
	}
	if !slices.Equal(sp.List(), free) || s.Held() != 5 || len(s.Refs()) != 2 {
		t.Error("a reading changed the account")
	}
	if b, n, err := s.Get(refs[3]); !bytes.Equal(b, fill(3, 700)) || n != 0 || err != api.OK {
		t.Errorf("behind the space: %d bytes, %d, %d", len(b), n, err)
	}
}

// Test7_7: how long a byte string may be; nothing is done ahead of the first Step.
func Test7_7(t *testing.T) {
	d, sp, s := shop(t, 2300, 1, 2300)
	acts := d.Acts()
	for _, n := range []int{1048577, 1048578, 2000000} {
		if p, err := s.Put(make([]byte, n)); p != nil || err != api.ErrLong {
			t.Errorf("%d bytes: %v, %d", n, p, err)
		}
	}
	b := random(rand.New(rand.NewSource(77)), 1048576)
	p := begun(t, s, b)
	wantPut(t, p, api.Ref{}, false)
	wantActs(t, d, acts, 0, 0)
	wantCounts(t, s, sp, 0, 0, 2299)
	for k := range 2185 {
		wantStep(t, p, k == 2184, api.OK)
	}
	wantActs(t, d, acts, 0, 2185)
	wantCounts(t, s, sp, 2185, 0, 114)
	if got, n, err := s.Get(p.Ref()); !bytes.Equal(got, b) || n != 0 || err != api.OK {
		t.Errorf("Get: %d bytes, %d, %d", len(got), n, err)
	}
	for _, given := range [][]byte{nil, {}} {
		p := put(t, s, given)
		if p.Ref() != refOf(nil, 2186) {
			t.Errorf("nothing: %v", p.Ref())
		}
	}
}

// Test7_8Write: all sectors are taken by the first Step, the lowest free ones; each Step writes one, in the order of the pieces.
func Test7_8Write(t *testing.T) {
	d, sp, s := shop(t, 30, 10, 30)
	for _, n := range []int{10, 12, 15} {
		sp.Claim(n)
	}
	b := random(rand.New(rand.NewSource(78)), 1900)
	numbers := []int{11, 13, 14, 16}
	p := begun(t, s, b)
	for k := range 4 {
		acts := d.Acts()
		wantStep(t, p, k == 3, api.OK)
		wantActs(t, d, acts, 0, 1)
		for i, want := range chained(b, numbers) {
			if i > k {
				want = make([]byte, 512)
			}
			if got, _ := d.Read(numbers[i]); !bytes.Equal(got, want) {
				t.Fatalf("Step %d: the sector %d is another", k, numbers[i])
			}
		}
		if k < 3 {
			wantPut(t, p, api.Ref{}, false, numbers...)
			wantUnknown(t, s, refOf(b, 11))
		}
	}
	for range 2 {
		wantPut(t, p, refOf(b, 11), true, numbers...)
		if s.Uses(p.Ref()) != 1 || !slices.Equal(s.Sectors(p.Ref()), numbers) {
			t.Errorf("%d uses, sectors %v", s.Uses(p.Ref()), s.Sectors(p.Ref()))
		}
		wantStands(t, s, p.Ref())
		acts := d.Acts()
		wantStep(t, p, true, api.OK)
		wantActs(t, d, acts, 0, 0)
	}
	// What is told of a put that ended OK stays, whatever becomes of its chain.
	s.Undo(p.Ref())
	wantStep(t, p, true, api.OK)
	wantPut(t, p, refOf(b, 11), true, numbers...)
}

// Test7_8NoSpace: too few sectors are told ahead of any act, and none is taken.
func Test7_8NoSpace(t *testing.T) {
	d, sp, s := shop(t, 20, 10, 20)
	sp.Claim(13)
	acts := d.Acts()
	p := begun(t, s, fill(1, 9*480+1))
	for range 3 {
		wantStep(t, p, true, api.ErrNoSpace)
		wantPut(t, p, api.Ref{}, false)
		wantCounts(t, s, sp, 0, 0, 9)
		wantActs(t, d, acts, 0, 0)
	}
	full := put(t, s, fill(1, 9*480))
	wantStep(t, begun(t, s, nil), true, api.ErrNoSpace)
	s.Drop(full.Ref())
	wantStep(t, begun(t, s, nil), true, api.ErrNoSpace) // spent is not free
	s.Sweep()
	put(t, s, nil)
	wantStep(t, p, true, api.ErrNoSpace) // what it ended with stays
}

// Test7_8Same: bytes that lie there are read, a Read a Step, and used once more from the first one on.
func Test7_8Same(t *testing.T) {
	d, sp, s := shop(t, 30, 10, 30)
	b := fill(1, 1500)
	ref := known(t, d, s, b, 20, 12, 25, 11)
	p := begun(t, s, b)
	if s.Uses(ref) != 1 {
		t.Errorf("ahead of the first Step: %d uses", s.Uses(ref))
	}
	for k := range 4 {
		acts := d.Acts()
		wantStep(t, p, k == 3, api.OK)
		wantActs(t, d, acts, 1, 0)
		if s.Uses(ref) != 2 {
			t.Errorf("Step %d: %d uses", k, s.Uses(ref))
		}
		if k < 3 {
			wantPut(t, p, api.Ref{}, false)
		}
	}
	acts := d.Acts()
	for range 2 {
		wantPut(t, p, ref, false)
		wantStep(t, p, true, api.OK)
		wantCounts(t, s, sp, 4, 0, 16)
	}
	wantActs(t, d, acts, 0, 0)
	if s.Uses(ref) != 2 {
		t.Errorf("%d uses", s.Uses(ref))
	}
}

// Test7_8First: what stands at the first Step decides, not what stood when the put was made, or stands later.
func Test7_8First(t *testing.T) {
	d, _, s := shop(t, 30, 10, 30)
	b := fill(1, 900)
	early, late := begun(t, s, b), begun(t, s, b)
	ref := put(t, s, b).Ref()
	acts := d.Acts()
	wantStep(t, early, false, api.OK)
	wantStep(t, early, true, api.OK)
	wantActs(t, d, acts, 2, 0)
	wantPut(t, early, ref, false)
	s.Drop(ref)
	s.Drop(ref)
	acts = d.Acts()
	wantStep(t, late, false, api.OK)
	// Another one stands by now; this one goes on to write its own.
	twin := known(t, d, s, b, 20, 21)
	wantStep(t, late, true, api.OK)
	wantActs(t, d, acts, 2, 4) // two Reads are Know's, two Writes those of the twin
	wantPut(t, late, refOf(b, 12), true, 12, 13)
	wantStands(t, s, twin)
	if s.Uses(late.Ref()) != 1 || s.Uses(twin) != 1 {
		t.Errorf("%d and %d uses", s.Uses(late.Ref()), s.Uses(twin))
	}
	s.Drop(twin)
	wantStands(t, s, late.Ref())
}

// Test7_8Broken: a chain that shows itself not to be whole, at whatever Read, is used no more; the put writes another one, which stands.
func Test7_8Broken(t *testing.T) {
	b := fill(1, 1500)
	for k, n := range []int{20, 12, 25, 11} {
		d, sp, s := shop(t, 30, 10, 30)
		ref := known(t, d, s, b, 20, 12, 25, 11)
		turn(t, d, n)
		p, acts := begun(t, s, b), d.Acts()
		for i := range k + 1 {
			wantStep(t, p, false, api.OK)
			wantActs(t, d, acts, i+1, 0)
			wantPut(t, p, api.Ref{}, false)
		}
		if s.Uses(ref) != 1 {
			t.Fatalf("broken: %d uses", s.Uses(ref))
		}
		wantCounts(t, s, sp, 4, 0, 16)
		wantStands(t, s, ref)
		for i := range 4 {
			wantStep(t, p, i == 3, api.OK)
			wantActs(t, d, acts, k+1, i+1)
			wantCounts(t, s, sp, 8, 0, 12)
			if i < 3 {
				wantPut(t, p, api.Ref{}, false, 10, 13, 14, 15)
				wantStands(t, s, ref)
			}
		}
		wantPut(t, p, refOf(b, 10), true, 10, 13, 14, 15)
		wantStands(t, s, p.Ref())
		if s.Uses(ref) != 1 || s.Uses(p.Ref()) != 1 {
			t.Errorf("%d uses of the old one, %d of the new one", s.Uses(ref), s.Uses(p.Ref()))
		}
		if again := put(t, s, b); again.Ref() != p.Ref() || again.Wrote() {
			t.Errorf("again: %v", again.Ref())
		}
		// The old one has been known longer than any other.
		s.Drop(p.Ref())
		s.Drop(p.Ref())
		wantStands(t, s, ref)
	}
}

// Test7_8BrokenHash: pieces that are sound one by one and do not belong together show it with the last Read.
func Test7_8BrokenHash(t *testing.T) {
	d, _, s := shop(t, 30, 10, 30)
	b := fill(1, 900)
	ref := known(t, d, s, b, 20, 21)
	if err := d.Write(21, laid(fill(2, 420), ref.Hash, 1, 0)); err != api.OK {
		t.Fatal(err)
	}
	p := begun(t, s, b)
	wantStep(t, p, false, api.OK)
	wantStep(t, p, false, api.OK)
	if s.Uses(ref) != 1 {
		t.Errorf("%d uses", s.Uses(ref))
	}
	wantStep(t, p, false, api.OK)
	wantStep(t, p, true, api.OK)
	wantPut(t, p, refOf(b, 10), true, 10, 11)
	wantStands(t, s, p.Ref())
}

// Test7_8BrokenEmpty: of a chain of no bytes that is broken no bytes are read, which are not those that were put.
func Test7_8BrokenEmpty(t *testing.T) {
	d, _, s := shop(t, 30, 10, 30)
	known(t, d, s, nil, 20)
	turn(t, d, 20)
	p := begun(t, s, nil)
	wantStep(t, p, false, api.OK)
	wantStep(t, p, true, api.OK)
	wantPut(t, p, refOf(nil, 10), true, 10)
}

// Test7_8BrokenNoSpace: the put may still end without room; the use is dropped all the same.
func Test7_8BrokenNoSpace(t *testing.T) {
	d, sp, s := shop(t, 13, 10, 13)
	b := fill(1, 900)
	ref := known(t, d, s, b, 11, 12)
	turn(t, d, 12)
	p := begun(t, s, b)
	wantStep(t, p, false, api.OK)
	wantStep(t, p, false, api.OK)
	acts := d.Acts()
	for range 2 {
		wantStep(t, p, true, api.ErrNoSpace)
		wantActs(t, d, acts, 0, 0)
		wantPut(t, p, api.Ref{}, false)
	}
	if s.Uses(ref) != 1 {
		t.Errorf("%d uses", s.Uses(ref))
	}
	wantCounts(t, s, sp, 2, 0, 1)
	wantStands(t, s, ref)
}

// Test7_8BrokenTwin: where another chain of the hash stands by then, the new one does not stand; the put looks for none a second time.
func Test7_8BrokenTwin(t *testing.T) {
	d, _, s := shop(t, 30, 10, 30)
	b := fill(1, 900)
	ref, twin := known(t, d, s, b, 20, 21), known(t, d, s, b, 24, 25)
	turn(t, d, 20)
	p := begun(t, s, b)
	wantStep(t, p, false, api.OK)
	s.Drop(ref) // the last use but the put's
	wantStands(t, s, twin)
	acts := d.Acts()
	wantStep(t, p, false, api.OK)
	wantStep(t, p, true, api.OK)
	wantActs(t, d, acts, 0, 2)
	wantPut(t, p, refOf(b, 10), true, 10, 11)
	wantStands(t, s, twin)
}

// Test7_8BrokenLast: the put's own use may be the last one: its end is Drop's.
func Test7_8BrokenLast(t *testing.T) {
	d, sp, s := shop(t, 30, 10, 30)
	b := fill(1, 900)
	ref := known(t, d, s, b, 20, 21)
	turn(t, d, 21)
	p := begun(t, s, b)
	wantStep(t, p, false, api.OK)
	s.Undo(ref)
	if s.Uses(ref) != 1 {
		t.Fatalf("%d uses", s.Uses(ref))
	}
	wantStep(t, p, false, api.OK)
	wantUnknown(t, s, ref)
	wantCounts(t, s, sp, 0, 2, 18)
	wantStep(t, p, false, api.OK)
	wantStep(t, p, true, api.OK)
	wantStands(t, s, p.Ref())
	wantCounts(t, s, sp, 2, 2, 16)
}

// Test7_8BrokenRef: a chain that was shown broken is told by its ref, also where it was written anew meanwhile.
func Test7_8BrokenRef(t *testing.T) {
	d, _, s := shop(t, 30, 10, 30)
	b := fill(1, 900)
	old := put(t, s, b).Ref()
	turn(t, d, 10)
	p := begun(t, s, b)
	wantStep(t, p, false, api.OK)
	wantStep(t, p, false, api.OK) // takes 12 and 13
	s.Undo(old)
	if again := put(t, s, b); again.Ref() != old || !again.Wrote() {
		t.Fatalf("%v, %t", again.Ref(), again.Wrote())
	}
	wantStep(t, p, true, api.OK)
	wantStands(t, s, p.Ref())
	if s.Uses(old) != 1 {
		t.Errorf("%d uses", s.Uses(old))
	}
	// Another one of that hash is not it.
	s.Undo(old)
	turn(t, d, 12)
	q := begun(t, s, b)
	wantStep(t, q, false, api.OK)
	wantStep(t, q, false, api.OK) // takes 10 and 11
	s.Undo(p.Ref())
	other := known(t, d, s, b, 20, 21)
	wantStep(t, q, true, api.OK)
	wantStands(t, s, other)
}

// Test7_8Gone: others may drop or undo the last use meanwhile: the put goes its way, and the chain stays unknown.
func Test7_8Gone(t *testing.T) {
	b := fill(1, 900)
	for _, undo := range []bool{false, true} {
		for _, broken := range []bool{false, true} {
			d, sp, s := shop(t, 30, 10, 30)
			ref := known(t, d, s, b, 20, 21)
			less, spent, free := s.Drop, 2, 18
			if undo {
				less, spent, free = s.Undo, 0, 20
			}
			p := begun(t, s, b)
			wantStep(t, p, false, api.OK)
			for range 2 {
				if err := less(ref); err != api.OK {
					t.Fatal(err)
				}
			}
			wantUnknown(t, s, ref)
			if broken {
				turn(t, d, 21)
				wantStep(t, p, false, api.OK)
				wantUnknown(t, s, ref)
				wantCounts(t, s, sp, 0, spent, free)
				wantStep(t, p, false, api.OK)
				wantStep(t, p, true, api.OK)
				wantPut(t, p, refOf(b, 10), true, 10, 11)
				wantStands(t, s, p.Ref())
				wantCounts(t, s, sp, 2, spent, free-2)
				continue
			}
			wantStep(t, p, true, api.OK)
			wantPut(t, p, ref, false)
			wantUnknown(t, s, ref)
			wantCounts(t, s, sp, 0, spent, free)
		}
	}
}

// Test7_8Clash: two byte strings of one hash are not at hand, so another chain is made to stand for the hash from within.
func Test7_8Clash(t *testing.T) {
	d, sp, s := shop(t, 30, 10, 30)
	b := fill(1, 900)
	for _, unlike := range [][]byte{fill(2, 900), append(fill(1, 899), 0), fill(1, 901), fill(1, 899), {}} {
		ref := put(t, s, unlike).Ref()
		s.stands[refOf(b, 0).Hash] = ref
		p, acts, held := begun(t, s, b), d.Acts(), s.Held()
		reads := len(s.Sectors(ref))
		for k := range reads {
			if k == reads-1 {
				wantStep(t, p, true, api.ErrClash)
			} else {
				wantStep(t, p, false, api.OK)
			}
		}
		for range 2 {
			wantStep(t, p, true, api.ErrClash)
			wantPut(t, p, api.Ref{}, false)
		}
		wantActs(t, d, acts, reads, 0)
		if s.Uses(ref) != 1 || s.Held() != held {
			t.Errorf("%d uses, %d held", s.Uses(ref), s.Held())
		}
	}
	wantCounts(t, s, sp, 9, 0, 11)
}

// Test7_9Leave: a put may be left at any time; what it took is free, its use dropped. One that has ended stays.
func Test7_9Leave(t *testing.T) {
	b := fill(1, 1500)
	for steps := range 5 {
		d, sp, s := shop(t, 30, 10, 30)
		p, acts := begun(t, s, b), d.Acts()
		for k := range steps {
			wantStep(t, p, k == 3, api.OK)
		}
		for range 3 {
			p.Leave()
			wantActs(t, d, acts, 0, steps)
			if steps == 4 {
				wantPut(t, p, refOf(b, 10), true, 10, 11, 12, 13)
				wantStep(t, p, true, api.OK)
				wantStands(t, s, p.Ref())
				wantCounts(t, s, sp, 4, 0, 16)
				continue
			}
			wantPut(t, p, api.Ref{}, false)
			wantStep(t, p, true, api.ErrRef)
			wantUnknown(t, s, refOf(b, 10))
			wantCounts(t, s, sp, 0, 0, 20)
		}
	}
}

// Test7_9LeaveRead: a put that reads is left: its use is dropped as by Drop, once.
func Test7_9LeaveRead(t *testing.T) {
	b := fill(1, 1500)
	for steps := range 5 {
		for _, others := range []int{0, 1, 2} { // uses that others take away ahead of it
			d, sp, s := shop(t, 30, 10, 30)
			ref := known(t, d, s, b, 20, 12, 25, 11)
			s.Use(ref)
			p := begun(t, s, b)
			for k := range steps {
				wantStep(t, p, k == 3, api.OK)
			}
			for range others {
				s.Undo(ref)
			}
			left := 2 - others
			if steps == 4 {
				left++ // the put has ended, and its use stays
			}
			for range 3 {
				p.Leave()
				if steps == 4 {
					wantStep(t, p, true, api.OK)
					wantPut(t, p, ref, false)
				} else {
					wantStep(t, p, true, api.ErrRef)
					wantPut(t, p, api.Ref{}, false)
				}
				if s.Uses(ref) != left {
					t.Fatalf("%d Steps, %d uses undone: %d uses, want %d", steps, others, s.Uses(ref), left)
				}
			}
			switch {
			case left > 0:
				wantCounts(t, s, sp, 4, 0, 16)
			case steps > 0:
				wantCounts(t, s, sp, 0, 4, 16) // the put's was the last one, and is dropped
			default:
				wantCounts(t, s, sp, 0, 0, 20)
			}
		}
	}
}

// Test7_9LeaveOther: what a put that is left has no part in stays: the last use gone, a broken chain dropped already, a refusal.
func Test7_9LeaveOther(t *testing.T) {
	b := fill(1, 900)
	d, sp, s := shop(t, 30, 10, 30)
	ref := known(t, d, s, b, 20, 21)
	gone := begun(t, s, b)
	wantStep(t, gone, false, api.OK)
	s.Drop(ref)
	s.Drop(ref)
	gone.Leave()
	wantStep(t, gone, true, api.ErrRef)
	wantUnknown(t, s, ref)
	wantCounts(t, s, sp, 0, 2, 18)
	s.Sweep()
	s.Know(ref)
	turn(t, d, 20)
	for steps := 1; steps <= 2; steps++ {
		broken := begun(t, s, b)
		for range steps {
			wantStep(t, broken, false, api.OK)
		}
		broken.Leave()
		wantStep(t, broken, true, api.ErrRef)
		wantPut(t, broken, api.Ref{}, false)
		if s.Uses(ref) != 1 {
			t.Fatalf("%d uses", s.Uses(ref))
		}
		wantStands(t, s, ref)
		wantCounts(t, s, sp, 2, 0, 18)
	}
	long := begun(t, s, make([]byte, 20000))
	wantStep(t, long, true, api.ErrNoSpace)
	long.Leave()
	wantStep(t, long, true, api.ErrNoSpace)
	wantCounts(t, s, sp, 2, 0, 18)
}

// Test7_9LeaveAnew: a chain is told by its ref, also the one whose use is dropped: known anew meanwhile it is the same chain.
func Test7_9LeaveAnew(t *testing.T) {
	b := fill(1, 900)
	d, sp, s := shop(t, 30, 10, 30)
	ref := known(t, d, s, b, 20, 21)
	p := begun(t, s, b)
	wantStep(t, p, false, api.OK)
	s.Undo(ref)
	s.Undo(ref)
	for range 2 {
		if n, err := s.Know(ref); n != 0 || err != api.OK {
			t.Fatalf("Know: %d, %d", n, err)
		}
	}
	p.Leave()
	if s.Uses(ref) != 1 {
		t.Errorf("%d uses", s.Uses(ref))
	}
	wantCounts(t, s, sp, 2, 0, 18)
}

// Test7_10: as long as a chain is used, stands and is whole, its byte string is not written again; unlike byte strings have unlike refs.
func Test7_10(t *testing.T) {
	r := rand.New(rand.NewSource(710))
	d, _, s := shop(t, 400, 1, 400)
	var all [][]byte
	for _, n := range []int{0, 1, 2, 479, 480, 481, 959, 960, 961, 5000} {
		all = append(all, random(r, n), make([]byte, n))
	}
	refs := map[string]api.Ref{}
	firsts := map[int]string{}
	for _, b := range all {
		ref := put(t, s, b).Ref()
		if old, ok := refs[string(b)]; ok && old != ref {
			t.Fatalf("%v, then %v", old, ref)
		}
		if other, ok := firsts[ref.First]; ok && other != string(b) {
			t.Fatalf("two chains at %d", ref.First)
		}
		refs[string(b)], firsts[ref.First] = ref, string(b)
	}
	for range 200 {
		b := all[r.Intn(len(all))]
		acts := d.Acts()
		if p := put(t, s, b); p.Ref() != refs[string(b)] || p.Wrote() || d.Acts().Writes != acts.Writes {
			t.Fatalf("%d bytes again: %v", len(b), p.Ref())
		}
	}
}

// Test7_11: what was put or known is got as long as it is used, and behind its Drop till the next Sweep, though all other room is filled.
func Test7_11(t *testing.T) {
	r := rand.New(rand.NewSource(711))
	d, sp, s := shop(t, 60, 10, 60)
	b, c := random(r, 2000), random(r, 3000)
	one := put(t, s, b).Ref()
	two := known(t, d, s, c, 50, 40, 30, 45, 35, 55, 25)
	s.Use(one)
	for k := range 3 {
		for sp.Free() > 0 {
			put(t, s, random(r, 480)) // unlike all of before
		}
		for ref, want := range map[api.Ref][]byte{one: b, two: c} {
			if got, n, err := s.Get(ref); !bytes.Equal(got, want) || n != 0 || err != api.OK {
				t.Fatalf("round %d: %d bytes, %d, %d", k, len(got), n, err)
			}
		}
		for _, ref := range s.Refs() {
			if ref != one && ref != two {
				s.Undo(ref)
			}
		}
		s.Drop(one) // twice used: once more behind the first
		if k == 1 {
			s.Drop(two)
		}
	}
	wantUnknown(t, s, one)
	wantUnknown(t, s, two)
	if n := s.Sweep(); n != 12 || sp.Free() != 50 {
		t.Errorf("%d swept, %d free", n, sp.Free())
	}
}

// Test7_14Kept: what is handed in may be changed behind the call, and is not changed by it; what is answered may be scribbled over.
func Test7_14Kept(t *testing.T) {
	r := rand.New(rand.NewSource(714))
	b := random(r, 1500)
	d, _, s := shop(t, 30, 10, 30)
	var ref api.Ref
	for k := range 3 { // written, then compared, then compared again
		room := append(slices.Clone(b), random(r, 700)...)
		before := slices.Clone(room)
		p := begun(t, s, room[:1500])
		if !bytes.Equal(room, before) {
			t.Fatal("Put changed what it was given")
		}
		clear(room)
		for ended := false; !ended; {
			ended, _ = p.Step()
			scribble(p.Taken())
		}
		ref = p.Ref()
		if p.Wrote() != (k == 0) || ref != refOf(b, 10) {
			t.Fatalf("%v, %t", ref, p.Wrote())
		}
		if !bytes.Equal(room, make([]byte, 2200)) {
			t.Fatal("Step changed what was given")
		}
		if k == 0 && !slices.Equal(p.Taken(), []int{10, 11, 12, 13}) {
			t.Fatalf("Taken: %v", p.Taken())
		}
	}
	g, err := s.Getter(ref)
	if err != api.OK {
		t.Fatal(err)
	}
	for range 4 {
		g.Step()
		scribble(g.Numbers())
	}
	for range 2 {
		got, _, _ := s.Get(ref)
		if !bytes.Equal(got, b) || !bytes.Equal(g.Bytes(), b) || !slices.Equal(g.Numbers(), []int{10, 11, 12, 13}) {
			t.Fatal("what was answered is what is kept")
		}
		clear(got[:cap(got)])
		got = g.Bytes()
		clear(got[:cap(got)])
		if l := s.Sectors(ref); !slices.Equal(l, []int{10, 11, 12, 13}) {
			t.Fatalf("Sectors: %v", l)
		} else {
			scribble(l)
		}
		l := s.Refs()
		if !slices.Equal(l, []api.Ref{ref}) {
			t.Fatalf("Refs: %v", l)
		}
		clear(l[:cap(l)])
	}
	// The sectors that are given back are those that were taken, whatever became of the answers.
	for range 3 {
		s.Drop(ref)
	}
	if s.Sweep() != 4 || s.space.Free() != 20 || d.Acts().Writes != 4 {
		t.Errorf("%d free", s.space.Free())
	}
}

func scribble(l []int) {
	l = l[:cap(l)]
	for i := range l {
		l[i] = -9
	}
}

// Test7_14Two: two stores over two disks have nothing in common.
func Test7_14Two(t *testing.T) {
	d, sp, s := shop(t, 30, 10, 30)
	e, eps, u := shop(t, 30, 10, 30)
	b := fill(1, 900)
	p, q := begun(t, s, b), begun(t, u, b)
	wantStep(t, p, false, api.OK)
	wantStep(t, q, false, api.OK)
	wantStep(t, p, true, api.OK)
	wantUnknown(t, u, p.Ref())
	wantStep(t, q, true, api.OK)
	wantPut(t, q, p.Ref(), true, 10, 11)
	s.Undo(p.Ref())
	wantStands(t, u, q.Ref())
	wantCounts(t, s, sp, 0, 0, 20)
	wantCounts(t, u, eps, 2, 0, 18)
	if d.Acts().Writes != 2 || e.Acts().Writes != 2 {
		t.Errorf("%v, %v", d.Acts(), e.Acts())
	}
}

// Test7_14Stepper: a put and a getter go by api.Stepper.
func Test7_14Stepper(t *testing.T) {
	_, _, s := shop(t, 30, 10, 30)
	p := begun(t, s, fill(1, 900))
	ref := refOf(fill(1, 900), 10)
	g, err := s.Getter(ref)
	if err != api.OK {
		t.Fatal(err)
	}
	for _, x := range []api.Stepper{p, g} {
		for k := range 3 {
			if ended, err := x.Step(); ended != (k > 0) || err != api.OK {
				t.Errorf("Step %d: %t, %d", k, ended, err)
			}
		}
	}
	if len(g.Bytes()) != 900 || g.Done() != 2 || g.Broken() != 0 {
		t.Errorf("%d bytes, %d read", len(g.Bytes()), g.Done())
	}
}

// Test7_14Meddled: another hand in the space voids the promises, but nothing panics, and all ends.
func Test7_14Meddled(t *testing.T) {
	r := rand.New(rand.NewSource(7142))
	for range 200 {
		d, sp, s := shop(t, 24, 10, 20)
		var puts []*Put
		for range 200 {
			switch r.Intn(8) {
			case 0:
				sp.Give(10 + r.Intn(10))
			case 1:
				sp.Claim(10 + r.Intn(10))
			case 2:
				d.Write(10+r.Intn(10), random(r, 512))
			case 3:
				puts = append(puts, begun(t, s, fill(byte(r.Intn(3)), 900)))
			case 4:
				s.Know(refOf(fill(byte(r.Intn(3)), 900), 10+r.Intn(10)))
			case 5:
				s.Drop(refOf(fill(byte(r.Intn(3)), 900), 10+r.Intn(10)))
			case 6:
				s.Undo(refOf(fill(byte(r.Intn(3)), 900), 10+r.Intn(10)))
			case 7:
				s.Sweep()
			}
			for _, p := range puts {
				if r.Intn(10) == 0 {
					p.Leave()
				}
				p.Step()
			}
			s.Refs()
		}
		for _, p := range puts {
			for k := 0; ; k++ {
				if ended, _ := p.Step(); ended {
					break
				}
				if k > 6 {
					t.Fatal("a put does not end")
				}
			}
		}
	}
}
