package root

import (
	"testing"

	"kiln/api"
	"kiln/disk"
)

// 18.6: slots with rising turns, and power failing ahead of each Step and behind the last, with each fate.
func TestNewestOrUnderWay(t *testing.T) {
	const count = 5
	for _, first := range []int{0, 1, 2, 7, 1<<32 - 3, last - count + 1} {
		for steps := range 2*count + 1 {
			for fate := -1; fate < 4; fate++ {
				d := madeDisk(t, 40)
				for i := range (steps + 1) / 2 {
					w := newWriter(t, d, turned(first+i))
					wantStep(t, w, false)
					if 2*i+1 < steps {
						wantStep(t, w, true)
					}
				}
				d.Crash(fate)
				answered := steps / 2
				if steps%2 == 1 && fate >= 1 {
					answered++ // the one under way came to last
				}
				if answered == 0 {
					wantNone(t, d)
				} else {
					wantSlot(t, d, turned(first+answered-1))
				}
			}
		}
	}
}

// story: what 18.6 speaks of: slots written by writers, one behind the other, beside whatever else is written.
type story struct {
	chance
	t        *testing.T
	disk     *disk.Disk
	answered *api.Slot // the last one whose second Step was made, or that Read told behind a crash
	underWay *api.Slot // the one whose Write alone was made
}

// next: the slot that comes next.
func (x *story) next() api.Slot {
	turn := 0
	if x.answered != nil {
		turn = x.answered.Turn + 1
	}
	return x.slot(x.disk.Sectors(), turn)
}

// others: what else is written meanwhile, behind the slots.
func (x *story) others() {
	for range x.Intn(4) {
		b := make([]byte, 512)
		x.Read(b)
		if x.Intn(3) == 0 {
			b = form(x.next()) // a file may have a slot's bytes
		}
		write(x.t, x.disk, 2+x.Intn(x.disk.Sectors()-2), b)
	}
}

// look: that Read tells the one under way, if there is one, else the last that was answered.
func (x *story) look() {
	x.t.Helper()
	want := x.answered
	if x.underWay != nil {
		want = x.underWay
	}
	if want == nil {
		wantNone(x.t, x.disk)
	} else {
		wantSlot(x.t, x.disk, *want)
	}
}

// crash: with any fates; Read tells one of the two.
func (x *story) crash() {
	x.t.Helper()
	fates := make([]int, x.disk.Sectors())
	for i := range fates {
		fates[i] = x.Intn(4) - 1
	}
	x.disk.Crash(fates...)
	s, err := wantRead(x.t, x.disk)
	switch {
	case x.underWay != nil && err == api.OK && s == *x.underWay:
		x.answered = x.underWay
	case x.answered != nil && err == api.OK && s == *x.answered:
	case x.answered == nil && err == api.ErrRoot:
	default:
		x.t.Fatalf("18.6: behind a crash: %v, %d, want %v or %v", s, err, x.answered, x.underWay)
	}
	x.underWay = nil
}

// write: a slot; power may fail ahead of each of its Steps: whether it was written to its end.
func (x *story) write() bool {
	s := x.next()
	w := newWriter(x.t, x.disk, s)
	x.others()
	if x.Intn(8) == 0 {
		x.crash()
		return false
	}
	wantStep(x.t, w, false)
	x.underWay = &s
	x.look()
	x.others()
	if x.Intn(3) == 0 {
		x.crash()
		return false
	}
	if x.Intn(8) == 0 {
		x.disk.Flush() // another hand's
		x.look()
	}
	wantStep(x.t, w, true)
	x.answered, x.underWay = &s, nil
	return true
}

// 18.6: the same by chance, crash behind crash, each time going on from the slot that counts.
func TestNewestAgainAndAgain(t *testing.T) {
	whole := 0
	for seed := range int64(600) {
		x := &story{chance: newChance(seed), t: t}
		x.disk = madeDisk(t, 12+x.Intn(8))
		for range 30 {
			if x.write() {
				whole++
			}
			x.look()
			if x.Intn(4) == 0 {
				x.crash()
			}
		}
	}
	if whole < 3000 {
		t.Errorf("but %d slots were written whole", whole)
	}
}

// 18.6: the slot that was answered is not touched while the next is written, so that it counts where that one is spoilt.
func TestOlderStays(t *testing.T) {
	d := madeDisk(t, 40)
	put(t, d, turned(0))
	for turn := 1; turn < 9; turn++ {
		put(t, d, turned(turn))
		for _, bit := range []int{0, 33, 100, 2000, 4095} {
			d.Turn(turn%2, bit)
			wantSlot(t, d, turned(turn-1))
			d.Turn(turn%2, bit)
			wantSlot(t, d, turned(turn))
		}
	}
}

// 18.5: on a disk each bit of a slot turned over makes it none.
func TestBits(t *testing.T) {
	d := madeDisk(t, 12)
	s := newChance(1851).slot(12, 3)
	put(t, d, s)
	for bit := range 4096 {
		d.Turn(1, bit)
		wantNone(t, d)
		d.Turn(1, bit)
	}
	wantSlot(t, d, s)
}

// 18.7: what was written for a disk of another size is not found, though it stands there whole.
func TestOtherSize(t *testing.T) {
	for _, from := range []int{12, 40, 41, 256, 300} {
		c := newChance(187)
		d := madeDisk(t, from)
		put(t, d, c.slot(from, 0))
		put(t, d, c.slot(from, 1))
		image := d.Image()
		for _, to := range []int{2, 11, 12, 13, 39, 40, 41, 42, 256, 257, 300, 512, 600} {
			moved := make([][]byte, to)
			for n := range moved {
				moved[n] = make([]byte, 512)
				if n < from {
					copy(moved[n], image[n])
				}
			}
			other, err := disk.Load(moved)
			if err != api.OK {
				t.Fatal(err)
			}
			if s, err := Read(other); (err == api.OK) != (from == to) || err != api.OK && err != api.ErrRoot || err != api.OK && s != (api.Slot{}) {
				t.Errorf("18.7: of %d sectors, on %d: %v, %d", from, to, s, err)
			}
			if to < 12 || to == from {
				continue
			}
			// Beside one of its own size it counts neither, however great its turn.
			mine := c.slot(to, 0)
			put(t, other, mine)
			if s, err := Read(other); s != mine || err != api.OK {
				t.Errorf("18.7: of %d sectors, on %d, beside its own: %v, %d", from, to, s, err)
			}
		}
	}
}
