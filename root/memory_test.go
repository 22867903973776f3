package root

import (
	"bytes"
	"math"
	"sync"
	"testing"

	"kiln/api"
	"kiln/disk"
)

// A writer goes on by single acts.
var _ api.Stepper = (*Writer)(nil)

// 18.4: the bytes of Encode are memory of their own, spare room too.
func TestFormHandedOut(t *testing.T) {
	s := newChance(184).any()
	b, _ := Encode(s)
	again, _ := Encode(s)
	_ = append(b, "behind"...)
	clear(b[:cap(b)])
	if !bytes.Equal(again, form(s)) {
		t.Error("18.4: two answers of Encode share memory")
	}
	third, _ := Encode(s)
	if !bytes.Equal(third, form(s)) {
		t.Error("18.4: an answer of Encode is kept")
	}
}

// 18.4: what is handed in to Decode is not changed, nor the room behind it, which is not looked at either.
func TestHandedIn(t *testing.T) {
	c := newChance(1841)
	for range 500 {
		s := c.any()
		long := append(form(s), "room behind"...)
		if got, err := Decode(long[:512]); got != s || err != api.OK {
			t.Fatalf("18.1: %v, %d", got, err)
		}
		if !bytes.Equal(long, append(form(s), "room behind"...)) {
			t.Fatal("18.4: bytes were changed")
		}
		long[c.Intn(512)] ^= 1
		before := bytes.Clone(long)
		if _, err := Decode(long[:512]); err != api.ErrRoot || !bytes.Equal(long, before) {
			t.Fatalf("18.4: bytes that are none were changed: %d", err)
		}
	}
}

// 18.4: what a writer puts down is the slot as it was handed in, and what is read of it is the reader's.
func TestSlotIsCopied(t *testing.T) {
	c := newChance(1842)
	d := madeDisk(t, 40)
	for turn := range 20 {
		s := c.slot(40, turn)
		want := s
		w := newWriter(t, d, s)
		s.Gen, s.Key, s.Root.Hash = 3, api.Key{}, api.Key{}
		wantStep(t, w, false)
		b, _ := d.Read(turn % 2)
		clear(b)
		wantStep(t, w, true)
		wantSlot(t, d, want)
	}
}

// 18.4: nothing is kept from call to call: slots of disks of their own, side by side.
func TestSideBySide(t *testing.T) {
	var wg sync.WaitGroup
	for k := range 8 {
		wg.Go(func() {
			c := newChance(int64(k))
			d, _ := disk.New(12 + k)
			for turn := range 200 {
				s := c.slot(12+k, turn)
				w, err := NewWriter(d, s)
				if err != api.OK {
					t.Errorf("NewWriter: %d", err)
					return
				}
				w.Step()
				w.Step()
				if got, err := Read(d); got != s || err != api.OK {
					t.Errorf("18.4: %v, %d, want %v", got, err, s)
				}
			}
		})
	}
	wg.Wait()
}

// 18.4: every call ends, and none panics, with whatever numbers.
func TestEnds(t *testing.T) {
	c := newChance(1843)
	d := madeDisk(t, 1030)
	all := append([]int{0, 1, 2, 7, 8, 9, 10, 11, 12, 40, 1024, 1025, 1026, 1029, 1030, 1031, last, last + 1, 65535, 65536, 65537, 1048576, 1048577, math.MaxUint32}, far...)
	pick := func(often int) int {
		if c.Intn(3) > 0 {
			return often
		}
		return all[c.Intn(len(all))]
	}
	for range 100000 {
		s := api.Slot{
			Sectors: pick(1030), Journal: pick(8), Turn: pick(1), Gen: pick(0), Start: pick(3),
			Root: api.Ref{First: pick(1026), Len: pick(2)}, Memo: api.Ref{First: pick(1029), Len: pick(2)},
		}
		b, err := Encode(s)
		if want, wantErr := encodePlainly(s); err != wantErr || !bytes.Equal(b, want) {
			t.Fatalf("18.1: Encode(%v): %d, want %d", s, err, wantErr)
		}
		w, err := NewWriter(d, s)
		if fits := may(s) && s.Sectors == 1030; (w != nil) != fits || (err == api.OK) != fits {
			t.Fatalf("18.3: NewWriter(%v): %d", s, err)
		}
		if w == nil {
			continue
		}
		wantStep(t, w, false)
		wantStep(t, w, true)
		if got, err := Decode(form(s)); got != s || err != api.OK {
			t.Fatalf("18.5: %v, %d, want %v", got, err, s)
		}
	}
}
