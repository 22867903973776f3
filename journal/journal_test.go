package journal

import (
	"bytes"
	"math"
	"slices"
	"testing"

	"kiln/api"
	"kiln/disk"
)

// thePrint, theRef: R and r of the chapter's examples.
var (
	thePrint = api.Key(bytes.Repeat([]byte{7}, 32))
	theRef   = api.Ref{Hash: api.Key(bytes.Repeat([]byte{9}, 32)), First: 20, Len: 300}
)

func open(t *testing.T, d *disk.Disk, from, n, start int) (*Journal, []api.Record) {
	t.Helper()
	j, l, err := Open(d, from, n, start)
	if err != api.OK || j == nil {
		t.Fatalf("Open(%d, %d, %d): %d", from, n, start, err)
	}
	return j, l
}

func add(t *testing.T, j *Journal) *Writer {
	t.Helper()
	w, err := j.Add(thePrint, theRef)
	if err != api.OK || w == nil {
		t.Fatalf("Add: %d", err)
	}
	return w
}

func wantStep(t *testing.T, w *Writer, ended bool, err api.Errno) {
	t.Helper()
	if e, r := w.Step(); e != ended || r != err {
		t.Errorf("17.7: Step: %t, %d, want %t, %d", e, r, ended, err)
	}
}

// put: a record, to its end.
func put(t *testing.T, j *Journal) {
	t.Helper()
	w := add(t, j)
	wantStep(t, w, false, api.OK)
	wantStep(t, w, true, api.OK)
}

// wantJournal: what a journal tells of itself.
func wantJournal(t *testing.T, j *Journal, start, next int, full bool) {
	t.Helper()
	if j.Start() != start || j.Next() != next || j.Full() != full {
		t.Errorf("17.5: Start %d, Next %d, Full %t, want %d, %d, %t", j.Start(), j.Next(), j.Full(), start, next, full)
	}
}

// TestExamples: the table of the chapter.
func TestExamples(t *testing.T) {
	one := []api.Ref{theRef}
	wantEncode(t, api.Record{}, api.ErrRefs)
	wantEncode(t, api.Record{Num: -1}, api.ErrLast)
	wantEncode(t, api.Record{Num: 1<<40 + 1, Refs: one}, api.ErrLast)
	b, _ := Encode(api.Record{Num: 3, Print: thePrint, Refs: one})
	want := slices.Concat([]byte("work\x03\x00\x00\x00\x00\x00\x00\x00"), thePrint[:], []byte{1}, theRef.Hash[:], []byte{0x14, 0, 0, 0, 0x2c, 1, 0, 0}, make([]byte, 427))
	if !bytes.Equal(b, summed(want)) {
		t.Errorf("Encode: %x", b)
	}
	for _, b := range [][]byte{make([]byte, 512), b[:511]} {
		if _, err := Decode(b); err != api.ErrBroken {
			t.Errorf("Decode of %d bytes: %d", len(b), err)
		}
	}
	d := madeDisk(t, 20)
	wantRefused(t, nil, 2, 8, 0)
	wantRefused(t, d, 2, 19, 0)
	wantRefused(t, d, 2, 8, -1)
	j, l := open(t, d, 2, 8, 0)
	wantJournal(t, j, 0, 0, false)
	if len(l) != 0 {
		t.Errorf("records of a new disk: %v", l)
	}
	if w, err := j.Add(thePrint); w != nil || err != api.ErrRefs {
		t.Errorf("Add without references: %d", err)
	}
	w := add(t, j)
	if w.Num() != 0 {
		t.Errorf("Num: %d", w.Num())
	}
	wantStep(t, w, false, api.OK)
	wantStep(t, w, true, api.OK)
	wantStep(t, w, true, api.OK)
	wantJournal(t, j, 0, 1, false)
	for range 7 {
		put(t, j)
	}
	wantJournal(t, j, 0, 8, true)
	if w, err := j.Add(thePrint, theRef); w != nil || err != api.ErrFull {
		t.Errorf("Add to a full one: %d", err)
	}
	if a, b, c := j.Move(9), j.Move(4), j.Move(3); a != api.ErrArg || b != api.OK || c != api.ErrArg {
		t.Errorf("Move: %d, %d, %d", a, b, c)
	}
	wantJournal(t, j, 4, 8, false)
	wantStep(t, add(t, j), false, api.OK)
	if r, err := decodePlainly(content(d)[2]); err != api.OK || r.Num != 8 {
		t.Errorf("in the sector 2: %v, %d", r, err)
	}
	d.Crash()
	k, l := open(t, d, 2, 8, 4)
	wantJournal(t, k, 4, 8, false)
	if !slices.Equal(numbers(l), []int{4, 5, 6, 7}) {
		t.Errorf("behind the crash: %v", numbers(l))
	}
}

// wantRefused: Replay and Open with ErrArg, and no act.
func wantRefused(t *testing.T, d *disk.Disk, from, n, start int) {
	t.Helper()
	var acts api.Acts
	if d != nil {
		acts = d.Acts()
	}
	if l, err := Replay(d, from, n, start); len(l) != 0 || err != api.ErrArg {
		t.Errorf("17.3: Replay(%d, %d, %d): %v, %d", from, n, start, numbers(l), err)
	}
	if j, l, err := Open(d, from, n, start); j != nil || len(l) != 0 || err != api.ErrArg {
		t.Errorf("17.4: Open(%d, %d, %d): %v, %d", from, n, start, numbers(l), err)
	}
	if d != nil && d.Acts() != acts {
		t.Errorf("17.3: acts of a refused call: %v", d.Acts())
	}
}

// wantReplay: Replay and Open tell just what stands there, by no more than a Read of each sector that they must look at.
func wantReplay(t *testing.T, d *disk.Disk, from, n, start int) []api.Record {
	t.Helper()
	want := replayPlainly(content(d), from, n, start)
	reads := min(len(want)+1, n)
	acts := d.Acts()
	l, err := Replay(d, from, n, start)
	if err != api.OK || !same(l, want) {
		t.Fatalf("17.3: Replay(%d, %d, %d): %v, %d, want %v", from, n, start, numbers(l), err, numbers(want))
	}
	acts.Reads += reads
	if d.Acts() != acts {
		t.Fatalf("17.3: acts of Replay: %v, want %v", d.Acts(), acts)
	}
	j, l := open(t, d, from, n, start)
	if !same(l, want) {
		t.Fatalf("17.4: Open(%d, %d, %d): %v, want %v", from, n, start, numbers(l), numbers(want))
	}
	wantJournal(t, j, start, start+len(want), len(want) == n)
	acts.Reads += reads
	if d.Acts() != acts {
		t.Fatalf("17.4: acts of Open: %v, want %v", d.Acts(), acts)
	}
	return l
}

// 17.3, 17.4: each argument just inside its bounds and outside, also where a sum of two has no room in an int.
func TestArguments(t *testing.T) {
	d := madeDisk(t, 2000)
	for _, x := range [][3]int{{0, 1, 0}, {1999, 1, 0}, {0, 1024, 0}, {976, 1024, 0}, {2, 8, last}, {2, 8, last + 1}, {2, 1024, last + 1}} {
		wantReplay(t, d, x[0], x[1], x[2])
	}
	for _, x := range [][3]int{
		{-1, 8, 0}, {1999, 2, 0}, {2000, 1, 0}, {977, 1024, 0}, {2, 0, 0}, {2, -1, 0}, {0, 1025, 0}, {0, 2000, 0}, {2, 8, -1}, {2, 8, last + 2},
		{math.MaxInt, 1, 0}, {math.MaxInt - 7, 8, 0}, {math.MaxInt - 1023, 1024, 0}, {math.MinInt, 1024, 0}, {math.MinInt, math.MinInt, math.MinInt}, {math.MaxInt, math.MaxInt, math.MaxInt},
	} {
		wantRefused(t, d, x[0], x[1], x[2])
		wantRefused(t, nil, x[0], x[1], x[2])
	}
	for _, n := range far {
		wantRefused(t, d, n, 8, 0)
		wantRefused(t, d, 2, n, 0)
		wantRefused(t, d, 2, 8, n)
	}
	wantRefused(t, nil, 2, 8, 0)
	small := madeDisk(t, 2)
	wantReplay(t, small, 0, 2, 0)
	wantReplay(t, small, 1, 1, 0)
	wantRefused(t, small, 0, 3, 0)
	wantRefused(t, small, 1, 2, 0)
	most := madeDisk(t, 65536)
	wantReplay(t, most, 65536-1024, 1024, 5)
	wantRefused(t, most, 65536-1023, 1024, 5)
}

// 17.3, 17.4: records from each number on, of journals of all sizes at all places; the sectors beside them hold records that would go on.
func TestReplay(t *testing.T) {
	c := newChance(173)
	for _, n := range []int{1, 2, 3, 8, 13, 1024} {
		for _, from := range []int{0, 1, 2, 9} {
			for _, start := range []int{0, 1, n - 1, n, n + 1, 7*n + n/2, last - n - 1} {
				d := madeDisk(t, from+n+3)
				for s := range d.Sectors() {
					write(t, d, s, form(c.record(start+n)))
				}
				stand := c.Intn(n + 1)
				for num := start; num < start+n; num++ {
					b := form(c.record(num))
					if num == start+stand {
						b[c.Intn(512)] ^= 1 << c.Intn(8)
					}
					write(t, d, from+num%n, b)
				}
				if l := wantReplay(t, d, from, n, start); len(l) != stand {
					t.Fatalf("17.3: %d of %d records, want %d", len(l), n, stand)
				}
			}
		}
	}
}

// 17.3, 17.4, 17.10: sectors by chance, read from every number on.
func TestReplayChance(t *testing.T) {
	c := newChance(1731)
	lengths := map[int]int{}
	for range 3000 {
		n, from := 1+c.Intn(7), c.Intn(3)
		first := c.Intn(30)
		d := madeDisk(t, from+n+2)
		for s := range d.Sectors() {
			write(t, d, s, form(c.record(first+c.Intn(n))))
		}
		for num := first; num < first+n; num++ {
			write(t, d, from+num%n, c.sector(num, n))
		}
		if c.Intn(2) == 0 {
			d.Crash(c.fates(d.Sectors())...)
		}
		for start := max(0, first-n); start < first+2*n; start++ {
			lengths[len(wantReplay(t, d, from, n, start))]++
		}
	}
	for n := range 8 {
		if lengths[n] < 50 {
			t.Errorf("%d records came but %d times", n, lengths[n])
		}
	}
}

// 17.3: what is read counts, whether it lasts or not: a write of late, and not the one ahead of it.
func TestReplayReads(t *testing.T) {
	c := newChance(1732)
	d := madeDisk(t, 10)
	write(t, d, 2, form(c.record(0)))
	d.Flush()
	write(t, d, 3, form(c.record(1)))
	write(t, d, 4, form(c.record(2)))
	if l := wantReplay(t, d, 2, 4, 0); len(l) != 3 {
		t.Errorf("17.3: %v", numbers(l))
	}
	write(t, d, 3, make([]byte, 512))
	if l := wantReplay(t, d, 2, 4, 0); len(l) != 1 {
		t.Errorf("17.3: %v", numbers(l))
	}
	d.Crash(1, 1)
	if l := wantReplay(t, d, 2, 4, 0); len(l) != 3 {
		t.Errorf("17.3: %v", numbers(l))
	}
}

// 17.3: no record is asked for behind MaxCount.
func TestReplayLast(t *testing.T) {
	c := newChance(1733)
	d := madeDisk(t, 12)
	for num := last - 3; num <= last; num++ {
		write(t, d, 2+num%8, form(c.record(num)))
	}
	write(t, d, 2+(last+1)%8, summed(form(api.Record{Num: last + 1, Refs: c.refs()})))
	for start := last - 3; start <= last+1; start++ {
		if l := wantReplay(t, d, 2, 8, start); len(l) != last+1-start {
			t.Errorf("17.3: from %d: %v", start, numbers(l))
		}
	}
	j, _ := open(t, d, 2, 8, last-3)
	if _, err := j.Add(thePrint, theRef); err != api.ErrLast {
		t.Errorf("17.6: Add behind MaxCount: %d", err)
	}
}

// 17.5: Full at each number of records, and Move to each number; nothing is written.
func TestMove(t *testing.T) {
	for _, first := range []int{0, 5, last - 7} {
		d := madeDisk(t, 12)
		j, _ := open(t, d, 2, 8, first)
		for k := range 8 {
			wantJournal(t, j, first, first+k, false)
			put(t, j)
		}
		wantJournal(t, j, first, first+8, true)
		acts := d.Acts()
		for _, to := range append([]int{first - 1, first + 9}, far...) {
			if err := j.Move(to); err != api.ErrArg {
				t.Errorf("17.5: Move(%d): %d", to, err)
			}
			wantJournal(t, j, first, first+8, true)
		}
		if err := j.Move(first); err != api.OK {
			t.Errorf("17.5: Move to Start: %d", err)
		}
		wantJournal(t, j, first, first+8, true)
		for k := 1; k <= 8; k++ {
			if err := j.Move(first + k); err != api.OK {
				t.Errorf("17.5: Move(%d): %d", first+k, err)
			}
			wantJournal(t, j, first+k, first+8, false)
			if err := j.Move(first + k - 1); err != api.ErrArg {
				t.Errorf("17.5: Move back to %d: %d", first+k-1, err)
			}
			wantJournal(t, j, first+k, first+8, false)
		}
		if d.Acts() != acts {
			t.Errorf("17.5: acts of Move: %v", d.Acts())
		}
	}
}

// 17.5: a journal of one sector is full with one record.
func TestOneSector(t *testing.T) {
	d := madeDisk(t, 3)
	j, _ := open(t, d, 1, 1, 0)
	for k := range 5 {
		wantJournal(t, j, k, k, false)
		put(t, j)
		wantJournal(t, j, k, k+1, true)
		if l := wantReplay(t, d, 1, 1, k); !slices.Equal(numbers(l), []int{k}) {
			t.Errorf("17.3: %v", numbers(l))
		}
		if k > 0 {
			wantReplay(t, d, 1, 1, k-1)
		}
		j.Move(k + 1)
	}
}

// wantAdd: what Add answers, without an act, and without a change of the journal.
func wantAdd(t *testing.T, d *disk.Disk, j *Journal, want api.Errno, refs ...api.Ref) {
	t.Helper()
	acts, start, next, full := d.Acts(), j.Start(), j.Next(), j.Full()
	w, err := j.Add(thePrint, refs...)
	if err != want || (w == nil) != (want != api.OK) {
		t.Errorf("17.6: Add(%v): %d, want %d", refs, err, want)
	}
	wantJournal(t, j, start, next, full)
	if d.Acts() != acts {
		t.Errorf("17.6: acts of Add: %v", d.Acts())
	}
}

// 17.6: the errors of Add in their order: references, the last number, a full journal.
func TestAddOrder(t *testing.T) {
	d := madeDisk(t, 12)
	wrong := [][]api.Ref{nil, make([]api.Ref, 9), make([]api.Ref, 257), {theRef, {First: 65536}}, {{First: -1}, theRef}, {{Len: 262145}}, {{Len: -1}}, {{First: 1 << 32}}, {{Len: 1 << 32}}}
	all := func(j *Journal, want api.Errno) {
		t.Helper()
		for _, refs := range wrong {
			wantAdd(t, d, j, api.ErrRefs, refs...)
		}
		for _, refs := range [][]api.Ref{{theRef}, make([]api.Ref, 8), {{First: 65535, Len: 262144}}} {
			wantAdd(t, d, j, want, refs...)
		}
	}
	j, _ := open(t, d, 2, 4, 0)
	all(j, api.OK)
	for range 4 {
		put(t, j)
	}
	all(j, api.ErrFull)
	j, _ = open(t, d, 2, 4, last-3)
	for range 3 {
		put(t, j)
	}
	all(j, api.OK)
	put(t, j)
	wantJournal(t, j, last-3, last+1, true)
	all(j, api.ErrLast)
	j.Move(last + 1)
	wantJournal(t, j, last+1, last+1, false)
	all(j, api.ErrLast)
	j, _ = open(t, d, 2, 4, last+1)
	all(j, api.ErrLast)
}

// 17.7: the acts of a writer, one a Step, and what lasts behind each; no other sector is written.
func TestSteps(t *testing.T) {
	c := newChance(177)
	for _, first := range []int{0, 3, 8, 100, last} {
		d := madeDisk(t, 12)
		for s := range 12 {
			b := make([]byte, 512)
			c.Read(b)
			write(t, d, s, b)
		}
		d.Flush()
		j, _ := open(t, d, 2, 8, first)
		p, refs := c.key(), c.refs()
		w, err := j.Add(p, refs...)
		if err != api.OK {
			t.Fatal(err)
		}
		before, acts := d.Image(), d.Acts()
		want := slices.Clone(before)
		want[2+first%8] = form(api.Record{Num: first, Print: p, Refs: refs})
		wantStep(t, w, false, api.OK)
		acts.Writes++
		if d.Acts() != acts || !slices.EqualFunc(d.Image(), before, bytes.Equal) {
			t.Errorf("17.7: the first Step is not one Write: %v", d.Acts())
		}
		wantJournal(t, j, first, first+1, false)
		wantStep(t, w, true, api.OK)
		acts.Flushes++
		if d.Acts() != acts || !slices.EqualFunc(d.Image(), want, bytes.Equal) {
			t.Errorf("17.7: the second Step is not one Flush of the record: %v", d.Acts())
		}
		for range 3 {
			wantStep(t, w, true, api.OK)
		}
		wantJournal(t, j, first, first+1, false)
		if d.Acts() != acts || w.Num() != first {
			t.Errorf("17.7: behind the end: %v, Num %d", d.Acts(), w.Num())
		}
	}
}

// 17.7: a writer takes the number that is Next at its first Step, not at Add; till then it tells Next as it is.
func TestNum(t *testing.T) {
	d := madeDisk(t, 12)
	j, _ := open(t, d, 2, 8, 5)
	a, b, c := add(t, j), add(t, j), add(t, j)
	for _, w := range []*Writer{a, b, c} {
		if w.Num() != 5 {
			t.Errorf("17.7: Num: %d", w.Num())
		}
	}
	wantStep(t, b, false, api.OK)
	if a.Num() != 6 || b.Num() != 5 || c.Num() != 6 {
		t.Errorf("17.7: %d, %d, %d", a.Num(), b.Num(), c.Num())
	}
	wantStep(t, c, false, api.OK)
	wantStep(t, b, true, api.OK)
	wantStep(t, a, false, api.OK)
	wantStep(t, c, true, api.OK)
	wantStep(t, a, true, api.OK)
	if a.Num() != 7 || b.Num() != 5 || c.Num() != 6 {
		t.Errorf("17.7: %d, %d, %d", a.Num(), b.Num(), c.Num())
	}
	j.Move(8)
	put(t, j)
	if a.Num() != 7 || b.Num() != 5 || c.Num() != 6 {
		t.Errorf("17.7: behind others: %d, %d, %d", a.Num(), b.Num(), c.Num())
	}
}

// wantEnded: a writer that has ended with an error stays so, without an act, whatever becomes of the journal.
func wantEnded(t *testing.T, d *disk.Disk, j *Journal, w *Writer, err api.Errno) {
	t.Helper()
	acts, start, next, full := d.Acts(), j.Start(), j.Next(), j.Full()
	for range 3 {
		wantStep(t, w, true, err)
	}
	wantJournal(t, j, start, next, full)
	if d.Acts() != acts || w.Num() != j.Next() {
		t.Errorf("17.7: acts %v, Num %d, Next %d", d.Acts(), w.Num(), j.Next())
	}
}

// 17.7: another writer has filled the journal between Add and the first Step; with room again the writer stays ended.
func TestFullBetween(t *testing.T) {
	d := madeDisk(t, 12)
	j, _ := open(t, d, 2, 4, 0)
	late := add(t, j)
	lively := add(t, j)
	for range 4 {
		put(t, j)
	}
	wantEnded(t, d, j, late, api.ErrFull)
	j.Move(2)
	wantEnded(t, d, j, late, api.ErrFull)
	wantStep(t, lively, false, api.OK) // which was not stepped as long as there was no room
	if lively.Num() != 4 || late.Num() != 5 {
		t.Errorf("17.7: %d, %d", lively.Num(), late.Num())
	}
	wantStep(t, lively, true, api.OK)
	wantEnded(t, d, j, late, api.ErrFull)
	put(t, j)
	wantEnded(t, d, j, late, api.ErrFull)
}

// 17.7: another writer has taken the last number between Add and the first Step; ErrLast also where the journal is full.
func TestLastBetween(t *testing.T) {
	for _, n := range []int{1, 2, 8} {
		d := madeDisk(t, 12)
		j, _ := open(t, d, 2, n, last)
		late, later := add(t, j), add(t, j)
		put(t, j)
		wantJournal(t, j, last, last+1, n == 1)
		wantEnded(t, d, j, late, api.ErrLast)
		j.Move(last + 1)
		wantEnded(t, d, j, late, api.ErrLast)
		wantEnded(t, d, j, later, api.ErrLast)
	}
}

// 17.7: the Flush of one writer is that of the disk; the other's second Step is a Flush all the same.
func TestFlushOfAnother(t *testing.T) {
	d := madeDisk(t, 12)
	j, _ := open(t, d, 2, 8, 0)
	a, b := add(t, j), add(t, j)
	wantStep(t, a, false, api.OK)
	wantStep(t, b, false, api.OK)
	wantStep(t, b, true, api.OK)
	d.Crash()
	if l := wantReplay(t, d, 2, 8, 0); len(l) != 2 {
		t.Errorf("17.7: %v", numbers(l))
	}
	wantStep(t, a, true, api.OK)
	if d.Acts().Flushes != 2 || d.Acts().Writes != 2 {
		t.Errorf("17.7: acts %v", d.Acts())
	}
}
