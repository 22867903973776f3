package journal

import (
	"bytes"
	"reflect"
	"slices"
	"sync"
	"testing"

	"kiln/api"
	"kiln/disk"
)

// A writer goes on by single acts.
var _ api.Stepper = (*Writer)(nil)

// roomy: the same references, with something in the room behind them.
func roomy(refs []api.Ref) []api.Ref {
	l := append(slices.Clone(refs), api.Ref{First: 77, Len: -7}, api.Ref{First: -1})
	return l[:len(refs)]
}

// 17.11: what is handed in is not changed, nor the room behind it; and that room is not looked at.
func TestHandedIn(t *testing.T) {
	c := newChance(17111)
	d := madeDisk(t, 12)
	j, _ := open(t, d, 2, 8, 0)
	for range 200 {
		r := c.record(c.Intn(last))
		r.Refs = roomy(r.Refs)
		before := slices.Clone(r.Refs[:cap(r.Refs)])
		b, err := Encode(r)
		if err != api.OK || !bytes.Equal(b, form(r)) {
			t.Fatalf("17.1: %d", err)
		}
		w, err := j.Add(r.Print, r.Refs...)
		if err != api.OK {
			t.Fatal(err)
		}
		wantStep(t, w, false, api.OK)
		j.Move(j.Next())
		if !slices.Equal(r.Refs[:cap(r.Refs)], before) {
			t.Fatal("17.11: references were changed")
		}
		long := append(b, "room behind"...)
		if _, err := Decode(long[:512]); err != api.OK || !bytes.Equal(long, append(form(r), "room behind"...)) {
			t.Fatalf("17.11: bytes were changed: %d", err)
		}
	}
}

// 17.6, 17.11: references that are changed behind Add are not those of the record.
func TestRefsAreCopied(t *testing.T) {
	c := newChance(17112)
	d := madeDisk(t, 12)
	j, _ := open(t, d, 2, 8, 0)
	for num := range 8 {
		r := c.record(num)
		refs := slices.Clone(r.Refs)
		w, _ := j.Add(r.Print, refs...)
		for i := range refs {
			refs[i] = api.Ref{First: -1, Len: -1}
		}
		wantStep(t, w, false, api.OK)
		clear(refs)
		wantStep(t, w, true, api.OK)
		if l := wantReplay(t, d, 2, 8, num); len(l) != 1 || !reflect.DeepEqual(l[0], r) {
			t.Errorf("17.6: %v, want %v", l, r)
		}
	}
}

// 17.11: the bytes of Encode and the record of Decode are memory of their own.
func TestFormHandedOut(t *testing.T) {
	c := newChance(17113)
	r := c.record(9)
	b, _ := Encode(r)
	again, _ := Encode(r)
	_ = append(b, "behind"...)
	clear(b[:cap(b)])
	if !bytes.Equal(again, form(r)) {
		t.Error("17.11: two answers of Encode share memory")
	}
	x, _ := Decode(again)
	y, _ := Decode(again)
	clear(again)
	if !reflect.DeepEqual(x, r) {
		t.Error("17.11: a record of Decode lies in the bytes")
	}
	clear(x.Refs[:cap(x.Refs)])
	if !reflect.DeepEqual(y, r) {
		t.Error("17.11: two answers of Decode share memory")
	}
}

// 17.11: the records of an answer share no memory with one another, spare room too, nor with those of another answer, the journal or the disk.
func TestRecordsHandedOut(t *testing.T) {
	c := newChance(17114)
	d := madeDisk(t, 12)
	var want []api.Record
	for num := range 8 {
		r := c.record(num)
		r.Refs = r.Refs[:1+num%3%len(r.Refs)]
		write(t, d, 2+num, form(r))
		want = append(want, r)
	}
	replayed, _ := Replay(d, 2, 8, 0)
	j, opened := open(t, d, 2, 8, 0)
	for _, l := range [][]api.Record{replayed, opened} {
		for i := range l {
			if !reflect.DeepEqual(l[i], want[i]) {
				t.Errorf("17.11: record %d was changed by what was done to others", i)
			}
			clear(l[i].Refs[:cap(l[i].Refs)])
			_ = append(l[i].Refs, theRef)
		}
		clear(l[:cap(l)])
	}
	wantJournal(t, j, 0, 8, true)
	if l := wantReplay(t, d, 2, 8, 0); !same(l, want) {
		t.Error("17.11: an answer is shared with the disk")
	}
}

// 17.4, 17.11: the disk is kept, not copied: the journal writes to it, also what others have written since is there.
func TestDiskIsKept(t *testing.T) {
	d := madeDisk(t, 12)
	j, _ := open(t, d, 2, 8, 0)
	mine := bytes.Repeat([]byte{5}, 512)
	write(t, d, 1, mine)
	put(t, j)
	d.Crash()
	if l := content(d); !bytes.Equal(l[1], mine) || !bytes.Equal(l[2], form(api.Record{Print: thePrint, Refs: []api.Ref{theRef}})) {
		t.Error("17.11: the Flush of a journal is not that of its disk")
	}
}

// 17.11: two journals in sectors of their own, stepped by turns, are as each alone, but that one's Flush is the other's too.
func TestTwoJournals(t *testing.T) {
	c := newChance(17115)
	for range 200 {
		both, left, right := madeDisk(t, 20), madeDisk(t, 20), madeDisk(t, 20)
		a, _ := open(t, both, 2, 8, 3)
		b, _ := open(t, both, 10, 7, 40)
		a1, _ := open(t, left, 2, 8, 3)
		b1, _ := open(t, right, 10, 7, 40)
		var pairs [][2]*Writer
		for range 40 {
			j, alone := a, a1
			if c.Intn(2) == 0 {
				j, alone = b, b1
			}
			r := c.record(0)
			w, err := j.Add(r.Print, r.Refs...)
			v, want := alone.Add(r.Print, r.Refs...)
			if err != want {
				t.Fatalf("17.11: Add: %d, want %d", err, want)
			}
			if w != nil {
				pairs = append(pairs, [2]*Writer{w, v})
			}
			for range c.Intn(3) {
				if len(pairs) > 0 {
					p := pairs[c.Intn(len(pairs))]
					ended, err := p[1].Step()
					wantStep(t, p[0], ended, err)
				}
			}
			if c.Intn(8) == 0 {
				j.Move(j.Next())
				alone.Move(alone.Next())
			}
		}
		wantJournal(t, a, a1.Start(), a1.Next(), a1.Full())
		wantJournal(t, b, b1.Start(), b1.Next(), b1.Full())
		l, m, r := content(both), content(left), content(right)
		if !slices.EqualFunc(l[:10], m[:10], bytes.Equal) || !slices.EqualFunc(l[10:], r[10:], bytes.Equal) {
			t.Fatal("17.11: two journals have more in common than the disk's Flush")
		}
	}
}

// 17.11: nothing is kept from call to call: the forms of records, and journals over disks of their own, side by side.
func TestSideBySide(t *testing.T) {
	var wg sync.WaitGroup
	for k := range 8 {
		wg.Go(func() {
			c := newChance(int64(k))
			d, _ := disk.New(12)
			j, _, _ := Open(d, 2, 8, k)
			for range 200 {
				r := c.record(j.Next())
				w, err := j.Add(r.Print, r.Refs...)
				if err != api.OK {
					t.Errorf("Add: %d", err)
					return
				}
				w.Step()
				w.Step()
				l, _ := Replay(d, 2, 8, r.Num)
				if !same(l, []api.Record{r}) {
					t.Errorf("17.11: %v, want %v", l, r)
				}
				j.Move(j.Next())
			}
		})
	}
	wg.Wait()
}

// 17.11: every call ends, and none panics, with whatever numbers.
func TestEnds(t *testing.T) {
	c := newChance(17116)
	d := madeDisk(t, 1030)
	all := append([]int{0, 1, 2, 8, 1024, 1025, 1030, last, last + 1, last + 2, 65535, 65536, 262144, 262145}, far...)
	pick := func() int { return all[c.Intn(len(all))] }
	for range 50000 {
		from, n, start := pick(), pick(), pick()
		may := from >= 0 && n >= 1 && n <= 1024 && from <= 1030-n && start >= 0 && start <= last+1
		j, _, err := Open(d, from, n, start)
		if (j != nil) != may || (err == api.OK) != may {
			t.Fatalf("17.4: Open(%d, %d, %d): %d", from, n, start, err)
		}
		refs := make([]api.Ref, c.Intn(10))
		for i := range refs {
			refs[i] = api.Ref{First: pick(), Len: pick()}
		}
		r := api.Record{Num: pick(), Refs: refs}
		b, err := Encode(r)
		if want, wantErr := encodePlainly(r); err != wantErr || !bytes.Equal(b, want) {
			t.Fatalf("17.1: Encode(%v): %d, want %d", r, err, wantErr)
		}
		if j == nil {
			continue
		}
		j.Move(pick())
		if w, err := j.Add(api.Key{}, refs...); err == api.OK {
			w.Step()
			w.Step()
			w.Num()
		}
	}
}
