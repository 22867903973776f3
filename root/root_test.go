package root

import (
	"bytes"
	"testing"

	"kiln/api"
	"kiln/disk"
)

// theSlot: s of the chapter's examples.
var theSlot = api.Slot{Sectors: 40, Journal: 8, Root: api.Ref{First: 10, Len: 2}, Memo: api.Ref{First: 11, Len: 2}}

// turned: theSlot with another turn.
func turned(turn int) api.Slot {
	s := theSlot
	s.Turn = turn
	return s
}

func newWriter(t *testing.T, d *disk.Disk, s api.Slot) *Writer {
	t.Helper()
	w, err := NewWriter(d, s)
	if err != api.OK || w == nil {
		t.Fatalf("18.3: NewWriter(%v): %d", s, err)
	}
	return w
}

func wantStep(t *testing.T, w *Writer, ended bool) {
	t.Helper()
	if e, err := w.Step(); e != ended || err != api.OK {
		t.Errorf("18.3: Step: %t, %d, want %t", e, err, ended)
	}
}

// put: a slot, written and flushed.
func put(t *testing.T, d *disk.Disk, s api.Slot) {
	t.Helper()
	w := newWriter(t, d, s)
	wantStep(t, w, false)
	wantStep(t, w, true)
}

// wantRead: what 18.2 says of the disk as it is; nothing but Reads is done.
func wantRead(t *testing.T, d *disk.Disk) (api.Slot, api.Errno) {
	t.Helper()
	before, acts := content(d), d.Acts()
	want, wantErr := readPlainly(before)
	s, err := Read(d)
	if s != want || err != wantErr {
		t.Fatalf("18.2: Read: %v, %d, want %v, %d", s, err, want, wantErr)
	}
	now := d.Acts()
	if now.Writes != acts.Writes || now.Flushes != acts.Flushes || now.Reads > acts.Reads+2 || !alike(content(d), before) {
		t.Fatalf("18.2: the acts of a Read: %v, before it %v", now, acts)
	}
	return s, err
}

// wantSlot: that Read tells that slot.
func wantSlot(t *testing.T, d *disk.Disk, want api.Slot) {
	t.Helper()
	if s, err := wantRead(t, d); s != want || err != api.OK {
		t.Errorf("18.2: Read: %v, %d, want %v", s, err, want)
	}
}

// wantNone: that Read tells none.
func wantNone(t *testing.T, d *disk.Disk) {
	t.Helper()
	if s, err := wantRead(t, d); s != (api.Slot{}) || err != api.ErrRoot {
		t.Errorf("18.2: Read: %v, %d, want none", s, err)
	}
}

// TestExamples: the table of the chapter.
func TestExamples(t *testing.T) {
	d := madeDisk(t, 40)
	wantNone(t, d)
	w := newWriter(t, d, theSlot)
	wantStep(t, w, false)
	wantStep(t, w, true)
	wantStep(t, w, true)
	wantSlot(t, d, theSlot)
	s := theSlot
	s.Journal = 37
	wantEncode(t, s, api.ErrRoot)
	wantStep(t, newWriter(t, d, turned(1)), false)
	wantSlot(t, d, turned(1))
	d.Crash(0)
	wantSlot(t, d, theSlot)
}

// 18.2: no disk.
func TestReadNothing(t *testing.T) {
	if s, err := Read(nil); s != (api.Slot{}) || err != api.ErrArg {
		t.Errorf("18.2: Read(nil): %v, %d", s, err)
	}
}

// 18.2: one sound slot, in each sector, whatever stands in the other one.
func TestReadOne(t *testing.T) {
	for n := range 2 {
		newer := turned(n + 1)
		spoilt := form(newer)
		spoilt[300]++
		other := newer
		other.Sectors = 41
		for i, b := range [][]byte{make([]byte, 512), bytes.Repeat([]byte{255}, 512), spoilt, form(other), form(turned(n + 2))} {
			d := madeDisk(t, 40)
			write(t, d, n, form(turned(n)))
			write(t, d, 1-n, form(newer))
			wantSlot(t, d, newer)
			write(t, d, 1-n, b)
			if s, err := wantRead(t, d); s != turned(n) || err != api.OK {
				t.Errorf("18.2: sector %d beside what is none (%d): %v, %d", n, i, s, err)
			}
		}
	}
}

// 18.2: two sound slots: the one with the greater turn, by whatever the turns are apart, also the greatest ones.
func TestReadGreater(t *testing.T) {
	for _, even := range []int{0, 2, 4, 100, 1 << 31, 1 << 32, last - 2, last} {
		for _, odd := range []int{1, 3, 5, 101, 1<<31 + 1, 1<<32 - 1, last - 1} {
			d := madeDisk(t, 40)
			a, b := turned(even), turned(odd)
			a.Gen, b.Gen = odd, even // and so by the turn alone
			a.Start, b.Start = odd, even
			write(t, d, 0, form(a))
			write(t, d, 1, form(b))
			if even > odd {
				wantSlot(t, d, a)
			} else {
				wantSlot(t, d, b)
			}
		}
	}
}

// 18.2: a slot anywhere else than in its own sector is none.
func TestReadOtherSector(t *testing.T) {
	for n := range 40 {
		for turn := range 4 {
			d := madeDisk(t, 40)
			write(t, d, n, form(turned(turn)))
			if n == turn%2 {
				wantSlot(t, d, turned(turn))
			} else {
				wantNone(t, d)
			}
		}
	}
}

// 18.2: what was written last is read, flushed or not.
func TestReadCache(t *testing.T) {
	d := madeDisk(t, 40)
	write(t, d, 0, form(turned(6)))
	wantSlot(t, d, turned(6))
	write(t, d, 0, form(turned(2)))
	wantSlot(t, d, turned(2))
	d.Flush()
	wantSlot(t, d, turned(2))
	write(t, d, 0, make([]byte, 512))
	wantNone(t, d)
	d.Crash()
	wantSlot(t, d, turned(2))
}

// 18.2: the least disks, on which no slot is sound, and the least on which one is.
func TestReadLeast(t *testing.T) {
	for sectors := 2; sectors < 12; sectors++ {
		d := madeDisk(t, sectors)
		for _, s := range []api.Slot{theSlot, {Sectors: sectors, Journal: 8, Root: api.Ref{First: sectors - 1}, Memo: api.Ref{First: sectors - 1}}} {
			write(t, d, 0, form(s))
			wantNone(t, d)
		}
	}
	for _, sectors := range []int{12, 13, 65536} {
		s := newChance(1821).slot(sectors, 7)
		d := madeDisk(t, sectors)
		write(t, d, 1, form(s))
		if got, err := Read(d); got != s || err != api.OK {
			t.Errorf("18.2: %d sectors: %v, %d", sectors, got, err)
		}
	}
}

// 18.2: sectors with all that may stand there.
func TestReadChance(t *testing.T) {
	c := newChance(1822)
	found := map[api.Errno]int{}
	for range 20000 {
		d := madeDisk(t, 13+c.Intn(3))
		for n := range 2 {
			write(t, d, n, c.sector(n, d.Sectors(), 3))
		}
		_, err := wantRead(t, d)
		found[err]++
	}
	if found[api.OK] < 1000 || found[api.ErrRoot] < 100 {
		t.Errorf("found %v", found)
	}
}

// 18.3: no disk is told ahead of a slot that may not be; that, and one of another disk; nothing is done to the disk.
func TestRefused(t *testing.T) {
	wantRefused := func(d *disk.Disk, s api.Slot, want api.Errno) {
		t.Helper()
		if w, err := NewWriter(d, s); w != nil || err != want {
			t.Errorf("18.3: NewWriter(%v): %d, want %d", s, err, want)
		}
	}
	wantRefused(nil, theSlot, api.ErrArg)
	wantRefused(nil, api.Slot{}, api.ErrArg)
	d := madeDisk(t, 40)
	wantRefused(d, api.Slot{}, api.ErrRoot)
	for _, p := range parts {
		for _, n := range append([]int{p.least - 1, p.most + 1}, far...) {
			s := theSlot
			*p.of(&s) = n
			wantRefused(d, s, api.ErrRoot)
		}
	}
	for _, sectors := range []int{12, 39, 41, 65536} {
		s := theSlot
		s.Sectors = sectors
		wantRefused(d, s, api.ErrRoot)
	}
	if d.Acts() != (api.Acts{}) {
		t.Errorf("18.3: acts %v", d.Acts())
	}
	for sectors := 2; sectors < 12; sectors++ {
		wantRefused(madeDisk(t, sectors), theSlot, api.ErrRoot)
		wantRefused(madeDisk(t, sectors), api.Slot{Sectors: sectors, Journal: 8, Root: api.Ref{First: 10}, Memo: api.Ref{First: 10}}, api.ErrRoot)
	}
}

// 18.3: act by act: what is on the disk, what lasts, and that no other sector is touched.
func TestActs(t *testing.T) {
	c := newChance(183)
	for _, turn := range []int{0, 1, 2, 3, 10, 11, last - 1, last} {
		d := madeDisk(t, 40)
		for n := range 40 {
			b := make([]byte, 512)
			c.Read(b)
			write(t, d, n, b)
		}
		d.Flush()
		before, acts := d.Image(), d.Acts()
		s := c.slot(40, turn)
		w := newWriter(t, d, s)
		want := d.Image()
		want[turn%2] = form(s)
		if d.Acts() != acts {
			t.Errorf("18.3: NewWriter does acts: %v", d.Acts())
		}
		wantStep(t, w, false)
		acts.Writes++
		if d.Acts() != acts || !alike(d.Image(), before) || !alike(content(d), want) {
			t.Errorf("18.3: turn %d, the first Step: %v", turn, d.Acts())
		}
		acts = d.Acts()
		wantStep(t, w, true)
		acts.Flushes++
		if d.Acts() != acts || !alike(d.Image(), want) {
			t.Errorf("18.3: turn %d, the second Step: %v", turn, d.Acts())
		}
		for range 5 {
			wantStep(t, w, true)
		}
		if d.Acts() != acts || !alike(d.Image(), want) {
			t.Errorf("18.3: turn %d, behind its end: %v", turn, d.Acts())
		}
	}
}

// 18.3: a writer that has ended writes no more, also where the sector has other bytes by now.
func TestEnded(t *testing.T) {
	d := madeDisk(t, 40)
	w := newWriter(t, d, turned(2))
	wantStep(t, w, false)
	wantStep(t, w, true)
	put(t, d, turned(4))
	write(t, d, 20, make([]byte, 512))
	acts := d.Acts()
	wantStep(t, w, true)
	if d.Acts() != acts {
		t.Errorf("18.3: acts %v, want %v", d.Acts(), acts)
	}
	wantSlot(t, d, turned(4))
}

// 18.3: writers by turns: each goes by its own acts; the Flush is that of the disk.
func TestWritersByTurns(t *testing.T) {
	d := madeDisk(t, 40)
	a, b := newWriter(t, d, turned(8)), newWriter(t, d, turned(9))
	wantNone(t, d)
	wantStep(t, b, false)
	wantSlot(t, d, turned(9))
	wantStep(t, a, false)
	wantSlot(t, d, turned(9))
	wantStep(t, a, true)
	d.Crash()
	wantSlot(t, d, turned(9))
	acts := d.Acts()
	wantStep(t, b, true)
	acts.Flushes++
	if d.Acts() != acts {
		t.Errorf("18.3: acts %v, want %v", d.Acts(), acts)
	}
}
