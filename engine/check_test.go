package engine

import (
	"testing"

	"kiln/api"
)

// heldSectors: what is held and written, by Check: each sector of the heap in which a bit that is turned over is told.
func (g *ground) heldSectors(bit int) map[int]struct{} {
	g.t.Helper()
	l := map[int]struct{}{}
	for n := g.Engine.space.From(); n < g.disk.Sectors(); n++ {
		g.disk.Turn(n, bit)
		switch got := g.Check(); got {
		case n:
			l[n] = struct{}{}
		case none:
		default:
			g.t.Fatalf("W9: the sector %d is turned over, Check tells %d", n, got)
		}
		g.disk.Turn(n, bit)
	}
	return l
}

// 21.12, W9: at each act of a build a bit of each sector that is held and written is told, and of no other.
func TestCheckAtEachAct(t *testing.T) {
	g := newGround(t, 60, 8)
	g.publish(big("a", "o", "x", 2) + text("s", "s", "s"))
	g.pin()
	m := big("a", "o", "x", 2) + big("b", "d/p", "y", 4) + big("c", "d/q", "x", 2) + manyNames()
	g.begin(m)
	written := 0
	for bit := 0; ; bit += 97 {
		s := g.Stat()
		unwritten := len(g.Engine.build.pen.taken) - g.Engine.build.pen.written
		if l := g.heldSectors(bit % 4096); len(l) != s.Held-unwritten {
			t.Fatalf("21.12: %d sectors are held, %d of them not written; Check knows %d", s.Held, unwritten, len(l))
		}
		if unwritten > 0 {
			written++
		}
		before := g.disk.Acts()
		if n := g.Check(); n != none {
			t.Fatalf("21.12: %d", n)
		}
		before.Reads += s.Held - unwritten
		if g.disk.Acts() != before {
			t.Fatalf("21.12: Check: %+v, want %+v", g.disk.Acts(), before)
		}
		if p := g.step(1); p.Ended {
			if p.Gen != 2 {
				t.Fatalf("21.4: %+v", p)
			}
			break
		}
	}
	if written < 3+2+1 { // of b, of the root's node, of the memo
		t.Errorf("of chains that are being written %d states were seen", written)
	}
	g.heldSectors(4095)
}

// manyNames: a task of eight files with long names: their directory's node has three sectors, the memo two.
func manyNames() string {
	l := []string{"task n 99"}
	for i := range 8 {
		name := make([]byte, 64)
		for j := range name {
			name[j] = byte('a' + i)
		}
		l = append(l, "out n/"+string(name)+" = \"\"")
	}
	return lines(append(l, "end")...)
}

// 21.12, W9: every bit of a sector, of a chain that is whole and of one that is being written, by a put and by a merge.
func TestCheckEveryBit(t *testing.T) {
	g := newGround(t, 60, 8)
	g.begin(manyNames() + big("z", "z", "z", 3))
	every := func(n int) {
		t.Helper()
		for bit := range 8 * api.SectorSize {
			g.disk.Turn(n, bit)
			if got := g.Check(); got != n {
				t.Fatalf("W9: the bit %d of %d: Check: %d", bit, n, got)
			}
			g.disk.Turn(n, bit)
		}
	}
	g.step(4) // the empty file at 12; its record
	every(12)
	g.step(2) // two of three
	every(13)
	every(14)
	g.step(1 + 1 + 2)
	g.step(2) // n's node, of three sectors
	if got := g.Engine.build.pen.taken; len(got) != 3 || got[0] != 16 {
		t.Fatalf("%v", got)
	}
	every(16)
	every(17)
	every(10)
}

// 21.12: of several the least is told, whichever chain is whose; what is spent or free is none of it.
func TestCheckLeast(t *testing.T) {
	g := newGround(t, 60, 8)
	g.publish(big("a", "o", "x", 3)) // 12 13 14, 15, 16
	g.begin(big("b", "p", "y", 3))   // 17 18 19
	g.step(2)
	for _, n := range []int{18, 16, 14, 17, 15, 13} {
		g.disk.Turn(n, 50)
	}
	for _, n := range []int{13, 14, 15, 16, 17, 18} {
		if got := g.Check(); got != n {
			t.Errorf("21.12: Check: %d, want %d", got, n)
		}
		g.disk.Turn(n, 50)
	}
	for _, n := range []int{0, 1, 2, 9, 10, 11, 19, 20, 59} { // slots, journal, spent, not written yet, free
		g.disk.Turn(n, 50)
		if got := g.Check(); got != none {
			t.Errorf("21.12: Check: %d, turned over is %d", got, n)
		}
		g.disk.Turn(n, 50)
	}
}

// 21.12: Stat tells of a hurt engine what it was told to; of another one at each act what holds then.
func TestStatAtEachAct(t *testing.T) {
	g := newGround(t, 60, 8)
	empty := g.Stat().Key
	g.begin(big("a", "o", "x", 2) + text("b", "p", "y"))
	want := []api.Stat{
		{Held: 2},
		{Runs: 1, Held: 4}, {Runs: 1, Held: 4}, {Runs: 1, Held: 4}, // two Writes, a Flush
		{Runs: 1, Held: 4, Kept: 1, Records: 1}, {Runs: 1, Held: 4, Kept: 1, Records: 1},
		{Runs: 2, Held: 5, Kept: 1, Records: 1}, {Runs: 2, Held: 5, Kept: 1, Records: 1},
		{Runs: 2, Held: 5, Kept: 2, Records: 2}, {Runs: 2, Held: 5, Kept: 2, Records: 2},
		{Runs: 2, Held: 6, Kept: 2, Records: 2}, {Runs: 2, Held: 7, Kept: 2, Records: 2}, // the node, the memo
		{Runs: 2, Held: 7, Kept: 2, Records: 2},
		{Runs: 2, Held: 7, Kept: 2, Turn: 1},
		{Gen: 1, Turn: 1, Runs: 2, Held: 5, Spent: 2},
	}
	for i, w := range want {
		if i > 0 {
			g.step(1)
		}
		w.Key = empty
		if w.Gen == 1 {
			w.Key = keyOf([]api.File{{Path: "o", Data: read(g, "o")}, file("p", "y")})
		}
		w.Free = 50 - w.Held - w.Spent
		if got := g.Stat(); got != w {
			t.Errorf("21.12: behind %d acts: %+v, want %+v", i, got, w)
		}
	}
}

// read: a file of the current tree.
func read(g *ground, path string) []byte {
	pin, _, _ := g.Pin()
	defer g.Unpin(pin)
	b, _ := g.Engine.Read(pin, path)
	return b
}
