package engine

import (
	"math"
	"testing"

	"kiln/api"
	"kiln/disk"
)

// fates: all ways in which so many sectors with one write each may come through a crash, if they are few; else some.
func fates(sectors int) [][]int {
	var l [][]int
	for bits := range 1 << min(sectors, 5) {
		f := make([]int, sectors)
		for i := range f {
			f[i] = bits >> (i % 5) & 1
		}
		l = append(l, f)
	}
	return l
}

// The table 'Behind a crash', W2 and W6: at each act of a build, with any fates; and then the same build is done.
func TestBehindACrash(t *testing.T) {
	before := []api.File{file("o", "old")}
	m := big("a", "d/o", "x", 2) + text("b", "p", "y")
	after := []api.File{{Path: "d/o", Data: xs(2)}, file("p", "y")}
	const all = 2 + 3 + 1 + 3 + 3 + 1 + 2
	for at := range all + 1 {
		for _, f := range fates(9) {
			g := newGround(t, 60, 8)
			g.publish(text("z", "o", "old"))
			g.begin(m)
			if at > 0 {
				g.step(at)
			}
			g.disk.Crash(f...)
			g.open()
			s := g.Stat()
			switch {
			case at < 4 && (s.Gen != 1 || s.Kept != 0),
				at == 4 && (s.Gen != 1 || s.Kept != f[0]), // the record's sector is the first one of those that are written
				at > 4 && at < 8 && (s.Gen != 1 || s.Kept != 1),
				at == 8 && (s.Gen != 1 || s.Kept != 1+f[0]),
				at > 8 && at < all-1 && (s.Gen != 1 || s.Kept != 2),
				at == all-1 && (s.Gen != 1+f[0] || s.Kept != 2-2*f[0]),
				at == all && (s.Gen != 2 || s.Kept != 0):
				t.Fatalf("behind a crash at %d with %v: %+v", at, f, s)
			}
			if s.Kept != s.Records || s.Spent != 0 || g.Check() != none {
				t.Fatalf("21.2: %+v", s)
			}
			g.wantCurrent([][]api.File{before, after}[s.Gen-1])
			runs := 2 - s.Kept
			if s.Gen == 2 {
				runs = 0
			}
			g.publish(m)
			if g.Stat().Runs != runs {
				t.Fatalf("W6: behind a crash at %d with %v: %d runs, want %d", at, f, g.Stat().Runs, runs)
			}
			g.wantCurrent(after)
		}
	}
}

// xs: what big makes of x.
func xs(pieces int) []byte {
	b := make([]byte, 480*pieces-1)
	for i := range b {
		b[i] = 'x'
	}
	return b
}

// The table's line of a full journal: Start's root written, and not answered: all results, or the newer half.
func TestCrashInMove(t *testing.T) {
	for fate := range 2 {
		for flushed := range 2 {
			g := newGround(t, 80, 8)
			g.fillJournal()
			g.begin(text("t", "o", "x"))
			g.step(3 + flushed)
			g.disk.Crash(fate)
			g.open()
			want := 8
			if fate+flushed > 0 {
				want = 4
			}
			if s := g.Stat(); s.Kept != want || s.Records != want || s.Gen != 0 || s.Turn != 1-want/8 {
				t.Errorf("behind a crash (%d, %d): %+v", fate, flushed, s)
			}
			g.publish(text("t", "o", "x"))
			g.wantCurrent([]api.File{file("o", "x")})
		}
	}
}

// The table: what is kept behind a crash of a build with a full journal is what stands from Start on.
func TestCrashBehindMove(t *testing.T) {
	m := many(0, 11)
	g := newGround(t, 120, 8)
	g.begin(m)
	g.step(11*4 + 2)
	g.disk.Crash()
	g.open()
	if s := g.Stat(); s.Kept != 11-4 || s.Records != 7 {
		t.Errorf("behind a crash: %+v", s)
	}
	g.publish(m)
	if s := g.Stat(); s.Runs != 4 {
		t.Errorf("W6: %+v", s)
	}
}

// W2: crashes in a scavenging, at each act and with any fate.
func TestCrashInScavenging(t *testing.T) {
	for at := range 10 {
		for fate := range 2 {
			g := newGround(t, 60, 8)
			g.publish(text("a", "o", "x"))
			g.publish(text("b", "p", "y"))
			g.leave(4, text("c", "q", "z"))
			g.Scavenge()
			if at > 0 {
				g.sweep(at)
			}
			g.disk.Crash(fate)
			g.open()
			kept := 1
			if at > 5 || at == 5 && fate == 1 { // four Reads, the root's Write
				kept = 0
			}
			if s := g.Stat(); s.Kept != kept || s.Gen != 2 || s.Held != 3+kept || s.Spent != 0 {
				t.Errorf("behind a crash at %d, %d: %+v", at, fate, s)
			}
			g.wantCurrent([]api.File{file("p", "y")})
			g.publish(text("c", "q", "z"))
			if s := g.Stat(); s.Runs != 1-kept {
				t.Errorf("W6: %+v", s)
			}
		}
	}
}

// W2: crash behind crash, each build cut off an act later or sooner, in small rooms.
func TestCrashAgain(t *testing.T) {
	m := text("a", "o", "x") + text("b", "p", "y") + text("c", "q", "z")
	g := newGround(t, 30, 8)
	for i := range 60 {
		g.begin(m)
		g.step(1 + i%3)
		g.disk.Crash(i&1, i>>1&1, i>>2&1)
		g.open()
		if s := g.Stat(); s.Kept != s.Records || s.Held != 2+s.Kept || s.Gen != 0 || g.Check() != none {
			t.Fatalf("behind the crash %d: %+v", i, s)
		}
	}
	g.publish(m)
	if s := g.Stat(); s.Runs != 0 {
		t.Errorf("W6: %+v", s)
	}
}

// DOC: an Open of a disk whose power did not fail is as one behind a crash that kept every write.
func TestOpenWithoutCrash(t *testing.T) {
	m := big("a", "d/o", "x", 2) + text("b", "p", "y")
	const all = 2 + 3 + 1 + 3 + 3 + 1 + 2
	for at := range all + 1 {
		g := newGround(t, 60, 8)
		g.begin(m)
		if at > 0 {
			g.step(at)
		}
		d := copyOf(g.disk)
		g.open()
		d.Crash(2, 2, 2, 2, 2, 2, 2, 2, 2, 2)
		e, err := Open(d)
		if err != api.OK || e.Stat() != g.Stat() {
			t.Fatalf("at %d: %+v, want %+v", at, g.Stat(), e.Stat())
		}
		want := 0
		if at >= all-1 {
			want = 1
		}
		if g.Stat().Gen != want {
			t.Errorf("at %d: %+v", at, g.Stat())
		}
	}
}

// W9: a bit of a slot: the other one counts, or none; never what was not published.
func TestBitOfSlot(t *testing.T) {
	g := newGround(t, 60, 8)
	g.publish(text("a", "o", "x"))
	g.publish(text("b", "p", "y"))
	trees := [][]api.File{nil, {file("o", "x")}, {file("p", "y")}}
	for _, turned := range []int{0, 1} {
		for bit := 0; bit < 4096; bit += 7 {
			d := copyOf(g.disk)
			d.Flush()
			d.Turn(turned, bit)
			e, err := Open(d)
			if err != api.OK {
				t.Fatalf("W9: Open: %d", err)
			}
			x := &ground{t: t, disk: d, Engine: e}
			gen := 1 + turned // turn 2 stands in sector 0
			if s := e.Stat(); s.Hurt || s.Gen != gen {
				t.Fatalf("W9: %+v", s)
			}
			x.wantCurrent(trees[gen])
		}
	}
	d := copyOf(g.disk)
	d.Flush()
	d.Turn(0, 5)
	d.Turn(1, 5)
	if e, err := Open(d); e != nil || err != api.ErrRoot {
		t.Errorf("21.2: no sound slot: %d", err)
	}
	// Where the older slot's tree is given back and written over the engine is hurt.
	g.scavenge()
	g.begin(big("c", "q", "z", 30))
	g.step(20)
	g.disk.Turn(0, 99)
	e, err := Open(g.disk)
	if err != api.OK || e.Stat().Gen != 1 || !e.Stat().Hurt {
		t.Errorf("W9: %d, %+v", err, e.Stat())
	}
}

// W9: a bit of a record: fewer results are kept.
func TestBitOfRecord(t *testing.T) {
	g := newGround(t, 60, 8)
	g.begin(text("a", "o", "x") + text("b", "p", "y") + text("c", "q", "z"))
	g.step(12)
	for i := range 3 {
		for bit := 0; bit < 4096; bit += 11 {
			d := copyOf(g.disk)
			d.Flush()
			d.Turn(2+i, bit)
			e, err := Open(d)
			if s := e.Stat(); err != api.OK || s.Hurt || s.Kept != i || s.Records != i || s.Held != 2+i {
				t.Fatalf("W9: the bit %d of the record %d: %+v", bit, i, s)
			}
		}
	}
}

// W9: a bit of each sector of the heap: Open is hurt, or keeps fewer results; Check tells just that sector.
func TestBitOfHeap(t *testing.T) {
	g := newGround(t, 60, 8)
	g.publish(big("a", "d/o", "x", 3) + text("b", "p", "y"))
	current := g.Stat().Held
	g.begin(text("c", "q", "z") + big("e", "r", "w", 2))
	g.step(4 + 5)
	lost := map[int]int{}
	for _, record := range g.Engine.kept.from(0) {
		for _, ref := range record.Refs {
			for _, n := range g.Engine.store.Sectors(ref) {
				lost[n] = len(g.Engine.store.Sectors(ref))
			}
		}
	}
	for n := 10; n < 60; n++ {
		d := copyOf(g.disk)
		d.Flush()
		d.Turn(n, 8*n+3)
		e, err := Open(d)
		if err != api.OK {
			t.Fatal(err)
		}
		s := e.Stat()
		if g.heldBy(n, g.Engine.current.chains) {
			if !s.Hurt || e.Check() != n || s.Kept != 0 {
				t.Errorf("W9: a bit of %d: %+v, Check: %d", n, s, e.Check())
			}
			continue
		}
		kept := 2
		if lost[n] > 0 {
			kept = 1
		}
		if s.Hurt || e.Check() != none || s.Kept != kept || s.Held != current+3-lost[n] || s.Records != 2 || s.Spent != 0 {
			t.Errorf("W9: a bit of %d: %+v, Check: %d", n, s, e.Check())
		}
	}
}

// heldBy: whether one of these chains has that sector.
func (g *ground) heldBy(n int, refs []api.Ref) bool {
	for _, ref := range refs {
		for _, m := range g.Engine.store.Sectors(ref) {
			if m == n {
				return true
			}
		}
	}
	return false
}

// 21.13: whatever lies on a disk, no call panics, and each ends.
func TestForeignDisks(t *testing.T) {
	g := newGround(t, 40, 8)
	g.publish(big("a", "d/o", "x", 3) + text("b", "p", "y"))
	g.begin(text("c", "q", "z"))
	g.step(4)
	image := sectors(g.disk)
	for seed := range 3000 {
		d, _ := disk.Load(image)
		spoilt := uint32(seed)*2654435761 + 1
		for range 1 + seed%4 {
			spoilt ^= spoilt << 13
			spoilt ^= spoilt >> 17
			spoilt ^= spoilt << 5
			from, to := int(spoilt>>3)%40, int(spoilt>>12)%40
			if seed%2 == 0 {
				d.Turn(from, int(spoilt>>4)%4096)
				continue
			}
			b, _ := d.Read(from)
			d.Write(to, b)
		}
		e, err := Open(d)
		if err != api.OK {
			continue
		}
		useAll(e)
		// What another hand writes meanwhile does no harm either.
		d.Write(int(spoilt)%40, make([]byte, 512))
		useAll(e)
	}
}

// useAll: every call of an engine.
func useAll(e *Engine) {
	pin, _, _ := e.Pin()
	r, _ := e.Reading(pin, "d/o")
	e.Begin(text("b", "p", "y")+text("c", "q", "z")+big("f", "d/o", "x", 3), nil)
	e.Step(3)
	e.Scavenge()
	e.Sweep(4)
	e.Check()
	e.Stat()
	if r != nil {
		r.More(2)
	}
	e.Step(math.MaxInt)
	e.Sweep(math.MaxInt)
	if r != nil {
		r.More(math.MaxInt)
	}
	e.Read(pin, "p")
	e.List(pin, "")
	e.Unpin(pin)
	e.Step(math.MaxInt)
	e.Sweep(math.MaxInt)
	e.Check()
	e.Stat()
}
