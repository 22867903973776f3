package journal

import (
	"bytes"
	"slices"
	"testing"

	"kiln/api"
	"kiln/disk"
)

// diary: what 17.8 speaks of: a journal whose writers are stepped one behind the other, and what was answered of each record.
type diary struct {
	chance
	t        *testing.T
	disk     *disk.Disk
	from, n  int
	journal  *Journal
	start    int
	answered []api.Record // since the first Replay, and those of it: Flush answered, or found behind a crash
	hanging  *api.Record  // written last, its second Step not answered
}

// newDiary: a journal over a disk that holds records up to some number and none from Next on.
func newDiary(t *testing.T, seed int64) *diary {
	c := newChance(seed)
	x := &diary{chance: c, t: t, from: c.Intn(3), n: 1 + c.Intn(6)}
	x.disk = madeDisk(t, x.from+x.n+2)
	x.start = c.Intn(20)
	next := x.start + c.Intn(x.n+1)
	for num := max(0, next-x.n); num < next; num++ { // those ahead of Start are of another round
		r := c.record(num)
		write(t, x.disk, x.from+num%x.n, form(r))
		if num >= x.start {
			x.answered = append(x.answered, r)
		}
	}
	x.disk.Flush()
	x.open()
	return x
}

// open: the journal anew, with the Start of before; what is found is what was written down.
func (x *diary) open() {
	x.t.Helper()
	j, l, err := Open(x.disk, x.from, x.n, x.start)
	if err != api.OK {
		x.t.Fatal(err)
	}
	want := x.counting()
	if len(l) == len(want)+1 && x.hanging != nil {
		want = append(want, *x.hanging)
		x.answered = append(x.answered, *x.hanging)
	}
	if !same(l, want) {
		x.t.Fatalf("17.8: found %v, want %v", numbers(l), numbers(want))
	}
	x.journal, x.hanging = j, nil
}

// counting: the answered records from Start on.
func (x *diary) counting() []api.Record {
	return slices.DeleteFunc(slices.Clone(x.answered), func(r api.Record) bool { return r.Num < x.start })
}

// crash: at any moment, with any fates.
func (x *diary) crash() {
	x.disk.Crash(x.fates(x.disk.Sectors())...)
	x.open()
}

// add: a record; a crash may come ahead of each of its Steps.
func (x *diary) add() {
	r := x.record(x.journal.Next())
	w, err := x.journal.Add(r.Print, r.Refs...)
	if err == api.ErrFull {
		return
	}
	if err != api.OK {
		x.t.Fatal(err)
	}
	if x.Intn(10) == 0 {
		x.crash()
		return
	}
	wantStep(x.t, w, false, api.OK)
	x.hanging = &r
	if x.Intn(4) == 0 {
		x.crash()
		return
	}
	wantStep(x.t, w, true, api.OK)
	x.answered, x.hanging = append(x.answered, r), nil
}

// 17.8: what was written down is found again, behind crashes at any moment.
func TestFoundAgain(t *testing.T) {
	for seed := range int64(1500) {
		x := newDiary(t, seed)
		for range 40 {
			switch x.Intn(6) {
			case 0:
				x.crash()
			case 1:
				to := x.start + x.Intn(x.journal.Next()-x.start+1)
				if err := x.journal.Move(to); err != api.OK {
					t.Fatal(err)
				}
				x.start = to
			default:
				x.add()
			}
			if l, err := Replay(x.disk, x.from, x.n, x.start); err != api.OK || !same(l, x.counting()) {
				t.Fatalf("17.8: Replay from %d: %v, %d, want %v", x.start, numbers(l), err, numbers(x.counting()))
			}
		}
	}
}

// 17.8: of the record under way alone it hangs on the crash whether it is found; all fates.
func TestUnderWay(t *testing.T) {
	for _, x := range []struct{ steps, fate, want int }{{0, 0, 3}, {0, 1, 3}, {1, -1, 3}, {1, 0, 3}, {1, 1, 4}, {1, 2, 4}, {2, 0, 4}, {2, 1, 4}} {
		d := madeDisk(t, 12)
		j, _ := open(t, d, 2, 8, 6)
		for range 3 {
			put(t, j)
		}
		w := add(t, j)
		for range x.steps {
			w.Step()
		}
		d.Crash(x.fate)
		if k, l := open(t, d, 2, 8, 6); len(l) != x.want || k.Next() != 6+x.want {
			t.Errorf("17.8: %d Steps, fate %d: %v, Next %d", x.steps, x.fate, numbers(l), k.Next())
		}
	}
}

// 17.8: a record that a crash took is written anew under the same number, with other bytes, and only these are found.
func TestSameNumberAnew(t *testing.T) {
	d := madeDisk(t, 12)
	for k := range byte(5) {
		j, l := open(t, d, 2, 8, 0)
		if len(l) != 0 {
			t.Fatalf("17.8: found %v", numbers(l))
		}
		w, _ := j.Add(api.Key{k}, theRef)
		wantStep(t, w, false, api.OK)
		if k < 4 {
			d.Crash()
			continue
		}
		wantStep(t, w, true, api.OK)
		d.Crash()
		if _, l := open(t, d, 2, 8, 0); len(l) != 1 || l[0].Print != (api.Key{4}) {
			t.Errorf("17.8: %v", l)
		}
	}
}

// 17.9: going round and round, a sector tells of the number written to it last alone: from every number on, with and without a crash.
func TestRounds(t *testing.T) {
	for _, n := range []int{1, 2, 3, 8} {
		d := madeDisk(t, n+3)
		j, _ := open(t, d, 1, n, 0)
		for num := range 5 * n {
			put(t, j)
			j.Move(num + 1)
			for start := range num + 3 {
				l, err := Replay(d, 1, n, start)
				want := num + 1 - start
				if start > num || start <= num-n {
					want = 0 // nothing yet, or another round's
				}
				if err != api.OK || len(l) != want || want > 0 && (l[0].Num != start || l[want-1].Num != num) {
					t.Fatalf("17.9: n %d, behind record %d: from %d on %v, %d", n, num, start, numbers(l), err)
				}
			}
			d.Crash()
		}
	}
}

// 17.9: a record that stands in another number's sector is none, however whole it is.
func TestOtherPlace(t *testing.T) {
	c := newChance(179)
	for num := range 24 {
		for at := range 8 {
			d := madeDisk(t, 12)
			write(t, d, 2+at, form(c.record(num)))
			for start := range 24 {
				want := 0
				if start == num && num%8 == at {
					want = 1
				}
				if l := wantReplay(t, d, 2, 8, start); len(l) != want {
					t.Errorf("17.9: record %d in the sector %d, from %d on: %v", num, 2+at, start, numbers(l))
				}
			}
		}
	}
}

// 17.10: each bit of each sector of a journal turned over: those ahead of it are found, it and those behind it are not.
func TestBits(t *testing.T) {
	c := newChance(1710)
	d := madeDisk(t, 12)
	for num := 5; num < 13; num++ {
		write(t, d, 2+num%8, form(c.record(num)))
	}
	d.Flush()
	for num := 5; num < 13; num++ {
		for bit := range 4096 {
			d.Turn(2+num%8, bit)
			l, err := Replay(d, 2, 8, 5)
			if err != api.OK || len(l) != num-5 {
				t.Fatalf("17.10: record %d, bit %d: %v, %d", num, bit, numbers(l), err)
			}
			d.Turn(2+num%8, bit)
		}
	}
	if l := wantReplay(t, d, 2, 8, 5); len(l) != 8 {
		t.Errorf("17.10: turned back: %v", numbers(l))
	}
}

// 17.10: disks of bytes by chance, and records by chance in any order: each call ends, with what stands there.
func TestRaw(t *testing.T) {
	c := newChance(17101)
	for range 300 {
		d := madeDisk(t, 20)
		for s := range 20 {
			b := make([]byte, 512)
			c.Read(b)
			if c.Intn(3) == 0 {
				b = form(c.record(c.Intn(40)))
			}
			write(t, d, s, b)
		}
		for range 20 {
			n := 1 + c.Intn(19)
			wantReplay(t, d, c.Intn(20-n+1), n, c.Intn(41))
		}
		wantReplay(t, d, 0, 20, last+1)
	}
}

// 17.11: the journal is written into its own sectors alone, each time round.
func TestOwnSectors(t *testing.T) {
	c := newChance(1711)
	for range 100 {
		n, from := 1+c.Intn(8), c.Intn(5)
		d := madeDisk(t, from+n+4)
		for s := range d.Sectors() {
			b := make([]byte, 512)
			c.Read(b)
			write(t, d, s, b)
		}
		d.Flush()
		before := d.Image()
		j, _ := open(t, d, from, n, c.Intn(30))
		for range 3 * n {
			put(t, j)
			j.Move(j.Next())
		}
		for s, b := range d.Image() {
			if mine := s >= from && s < from+n; bytes.Equal(b, before[s]) == mine {
				t.Fatalf("17.11: sector %d of a journal from %d, n %d", s, from, n)
			}
		}
	}
}
