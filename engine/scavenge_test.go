package engine

import (
	"math"
	"testing"

	"kiln/api"
)

// 21.10: what Scavenge and Sweep refuse.
func TestScavengeRefused(t *testing.T) {
	g := newGround(t, 40, 8)
	for _, n := range far {
		if p, err := g.Sweep(n); p != (api.Progress{}) || err != api.ErrOver {
			t.Errorf("21.10: none was begun: %+v, %d", p, err)
		}
	}
	if err := g.Scavenge(); err != api.OK {
		t.Fatal(err)
	}
	for range 3 {
		if err := g.Scavenge(); err != api.ErrScan {
			t.Errorf("21.10: %d", err)
		}
		for _, n := range []int{math.MinInt, -1, 0} {
			if p, err := g.Sweep(n); p != (api.Progress{}) || err != api.ErrSteps {
				t.Errorf("21.10: Sweep(%d): %+v, %d", n, p, err)
			}
		}
	}
	g.want(g.sweep(1), going(1))
	g.want(g.sweep(1), going(1)) // the last act; the end needs none, and is told by the Sweep that comes to it
	g.want(g.sweep(1), done(0, 0))
	if p, err := g.Sweep(0); p != (api.Progress{}) || err != api.ErrOver {
		t.Errorf("21.10: behind the end: %+v, %d", p, err)
	}
	if g.scavenge() != 2 {
		t.Error("21.10: a second one")
	}
}

// 21.10: one Read for each sector, of what is held: the current tree, its memo, pinned ones, kept results; nothing twice.
func TestSweepReads(t *testing.T) {
	g := newGround(t, 120, 8)
	m := big("a", "d/o", "x", 3) + big("b", "p", "y", 2)
	g.publish(m) // 3 + 2 sectors, d's node, the root's, the memo
	if n := g.scavenge(); n != 8 {
		t.Errorf("21.10: %d acts", n)
	}
	g.wantStat(8, 0, 102, 0)
	one := g.pin()
	g.pin()
	g.publish(m + text("c", "q", "x")) // one sector, the root's node, the memo
	g.pin()
	if n := g.scavenge(); n != 8+3 {
		t.Errorf("21.10: %d acts", n)
	}
	g.publish(text("c", "q", "x")) // d is in pinned ones alone
	g.wantStat(8+3+2, 0, 97, 0)
	if n := g.scavenge(); n != 13 {
		t.Errorf("21.10: %d acts", n)
	}
	g.Unpin(one)
	g.wantStat(13, 0, 97, 0)
	g.Unpin(2)
	g.wantStat(11, 2, 97, 0) // the first root's node and memo
	g.Unpin(3)
	g.wantStat(3, 10, 97, 0)
	if n := g.scavenge(); n != 3 {
		t.Errorf("21.10: %d acts", n)
	}
	g.wantStat(3, 0, 107, 0)
	g.wantCurrent([]api.File{file("q", "x")})
}

// 21.10: the order of Reads, by what is broken: the call whose Read shows it ends, and gives nothing back.
func TestSweepOrder(t *testing.T) {
	g := newGround(t, 120, 8)
	g.publish(text("a", "a/x", "1") + text("b", "b", "2") + text("c", "c/y", "3"))
	g.pin()
	g.publish(text("a", "a/x", "1") + text("d", "d", "4"))
	g.leave(8, text("a", "a/x", "1")+text("e", "e", "5")+text("f", "f", "6"))
	firsts := func(names ...string) []int {
		known := map[string]int{}
		for _, ref := range g.Engine.store.Refs() {
			b, _, _ := g.Engine.store.Get(ref)
			known[string(b[:1])] = ref.First
			if len(b) == 1 {
				known["file "+string(b)] = ref.First
			}
		}
		var l []int
		for _, name := range names {
			l = append(l, known[name])
		}
		return l
	}
	now, then := g.Engine.current, g.Engine.pins.All()[0]
	files := firsts("file 1", "file 2", "file 3", "file 4", "file 5", "file 6")
	var nodeA, nodeC int
	for _, ref := range g.Engine.store.Refs() {
		switch ref {
		case now.root, then.Root, now.note, then.Memo:
		default:
			if b, _, _ := g.Engine.store.Get(ref); b[0] == 1 && nodeA == 0 {
				nodeA = ref.First
			} else if b[0] == 1 {
				nodeC = ref.First
			}
		}
	}
	order := []int{
		now.root.First, nodeA, files[0], files[3], now.note.First,
		then.Root.First, files[1], nodeC, files[2], then.Memo.First,
		files[4], files[5],
	}
	before := g.Stat()
	for i, n := range order {
		g.disk.Turn(n, 8*(i%60)+i)
		for _, at := range []int{1, math.MaxInt} {
			if err := g.Scavenge(); err != api.OK {
				t.Fatal(err)
			}
			p := api.Progress{}
			acts := 0
			for !p.Ended {
				p = g.sweep(at)
				acts += p.Acts
			}
			if acts != i+1 || p.Fault != (api.Fault{Err: api.ErrBroken}) || p.Gen != 0 {
				t.Errorf("21.10: what is read as number %d, broken: %+v behind %d acts", i, p, acts)
			}
		}
		g.disk.Turn(n, 8*(i%60)+i)
	}
	if g.Stat() != before {
		t.Errorf("21.10: %+v, %+v before", g.Stat(), before)
	}
	// Two results are kept, whose records stand: a root ahead of the end.
	if n := g.scavenge(); n != len(order)+2 || g.Stat().Kept != 0 || g.Stat().Turn != before.Turn+1 {
		t.Errorf("21.10: %d acts, %+v", n, g.Stat())
	}
}

// 21.10: kept results are read by rising record number, of all their refs; then the root leads past their records, and they are forgotten.
func TestSweepForgets(t *testing.T) {
	g := newGround(t, 80, 8)
	g.leave(4+1+2+3, lines("task a 99", "out o = \"x\"", "out p = \"y\"", "end")+big("b", "q", "z", 2))
	g.wantStat(6, 0, 64, 2)
	g.Scavenge()
	g.want(g.sweep(6), going(6))
	slot := slotIn(t, g.disk, 0)
	g.want(g.sweep(1), going(1))
	slot.Turn, slot.Start = 1, 2
	if got := slotIn(t, g.disk, 1); got != slot {
		t.Errorf("21.10: the root: %+v, want %+v", got, slot)
	}
	if s := g.Stat(); s.Turn != 1 || s.Gen != 0 || s.Kept != 2 || s.Records != 0 {
		t.Errorf("21.12: %+v", s)
	}
	g.want(g.sweep(1), going(1))
	g.wantStat(6, 0, 64, 2)
	g.want(g.sweep(1), done(0, 0))
	g.wantStat(2, 0, 68, 0)
	d := copyOf(g.disk)
	d.Crash()
	if e, _ := Open(d); e.Stat().Kept != 0 || e.Stat().Records != 0 {
		t.Errorf("21.10: %+v", e.Stat())
	}
	g.publish(text("c", "o", "x")) // the record 2, in the sector 4
	if r := recordIn(t, g.disk, 4); r.Num != 2 {
		t.Errorf("21.4: the record %d", r.Num)
	}
}

// 21.10: kept results whose records stand no more need no root.
func TestForgottenWithoutRoot(t *testing.T) {
	g := newGround(t, 80, 8)
	g.fillJournal()
	g.begin(text("t", "o", "x"))
	g.step(4) // output, Flush, root, Flush: Start is 4
	g.cancel()
	g.step(1)
	turn := g.Stat().Turn
	if n := g.scavenge(); n != 2+8+2 || g.Stat().Turn != turn+1 || g.Stat().Kept != 0 {
		t.Fatalf("21.10: %d acts, %+v", n, g.Stat())
	}
	// All kept results ahead of Start: those that the build uses are the only ones that stand.
	g = newGround(t, 80, 8)
	g.fillJournal()
	g.begin(many(4, 8) + text("t", "o", "x"))
	g.step(4)
	turn = g.Stat().Turn
	if n := g.scavenge(); n != 2+8 || g.Stat().Turn != turn || g.Stat().Kept != 4 {
		t.Fatalf("21.10: %d acts, %+v", n, g.Stat())
	}
	g.wantStat(2+4+1, 0, 63, 4)
	if n := g.Stat().Records; n != 4 {
		t.Errorf("21.10: %d records", n)
	}
	g.want(g.step(math.MaxInt), done(2+3+chunks(g), 1))
	if g.Stat().Runs != 8+1 {
		t.Errorf("21.10: %+v", g.Stat())
	}
}

// chunks: the sectors of the current root's node and memo.
func chunks(g *ground) int {
	return len(g.Engine.store.Sectors(g.Engine.current.root)) + len(g.Engine.store.Sectors(g.Engine.current.note))
}

// 21.10: what the build under way has staged or uses is not forgotten; Start is its first record.
func TestSweepBesideBuild(t *testing.T) {
	g := newGround(t, 80, 8)
	old := text("a", "oa", "A") + text("b", "ob", "B") + text("c", "oc", "C")
	g.leave(12, old)
	g.begin(text("b", "ob", "B") + text("d", "od", "D") + text("e", "oe", "E") + text("z", "oz", "Z"))
	g.want(g.step(9), going(9)) // b is used, d and e are staged, z's output is written
	g.wantStat(2+3+3, 0, 62, 5)
	g.Scavenge()
	g.want(g.sweep(7), going(7)) // z's output is not read
	g.want(g.sweep(1), going(1))
	if s := g.Engine.slot; s.Start != 3 || s.Turn != 1 {
		t.Errorf("21.10: %+v", s)
	}
	g.want(g.sweep(9), done(1, 0))
	g.wantStat(2+1+3, 0, 64, 3) // a and c are gone
	d := copyOf(g.disk)
	if e, _ := Open(d); e.Stat().Kept != 2 || e.Stat().Records != 2 {
		t.Errorf("21.10: the next Open: %+v", e.Stat())
	}
	// Once more there is nothing to forget, and no root.
	if n := g.scavenge(); n != 2+1+2 || g.Stat().Turn != 1 {
		t.Errorf("21.10: %d acts, %+v", n, g.Stat())
	}
	if p := g.step(math.MaxInt); p.Gen != 1 || g.Stat().Runs != 3+3 {
		t.Errorf("21.4: %+v, %+v", p, g.Stat())
	}
	g.wantCurrent([]api.File{file("ob", "B"), file("od", "D"), file("oe", "E"), file("oz", "Z")})
}

// 21.10: beside a build that has staged: a result whose record the journal's move left behind needs no root; the Start of one is the first record of the build under way, and not of one that has ended.
func TestStartBesideMove(t *testing.T) {
	g := newGround(t, 120, 8)
	m := many(0, 10)
	g.leave(4, text("x", "x", "X"))
	g.begin(m)
	g.step(4*7 + 2 + 2 + 2) // record 0 is x's, 1 to 7 are staged; then a move to 4; record 8
	if s := g.Engine.slot; s.Start != 4 || s.Turn != 1 || g.Stat().Kept != 9 {
		t.Fatalf("21.4: %+v", s)
	}
	g.step(3) // record 9
	if n := g.scavenge(); n != 2+10 || g.Stat().Kept != 9 || g.Engine.slot.Turn != 1 {
		t.Errorf("21.10: %d acts, %+v", n, g.Stat()) // x's record stands no more: no root
	}
	g.cancel()
	g.step(1)
	g.begin(text("y", "y", "Y"))
	g.step(4)
	if n := g.scavenge(); n != 2+10+2 {
		t.Errorf("21.10: %d acts", n)
	}
	if s := g.Engine.slot; s.Start != 10 || g.Stat().Kept != 1 {
		t.Errorf("21.10: %+v, %+v", s, g.Stat())
	}
}

// 21.10: lists: what comes meanwhile is read behind all that was there, what is let go of meanwhile is read all the same.
func TestSweepLists(t *testing.T) {
	g := newGround(t, 120, 8)
	g.publish(big("a", "o", "x", 5))
	pin := g.pin()
	g.publish(big("b", "p", "y", 4)) // held: 5 + 1 + 1 and 4 + 1 + 1
	g.Scavenge()
	g.want(g.sweep(1), going(1))
	g.Unpin(pin)
	g.wantStat(6, 9, 95, 0)
	g.begin(text("c", "q", "z"))
	g.step(3) // record written: kept from then on
	g.want(g.sweep(12), going(12))
	g.want(g.sweep(1), going(1)) // the second list: the kept result
	g.want(g.step(99), done(1+1+1+1+2, 3))
	g.want(g.sweep(2), going(2)) // the third one: the new tree's node and its memo
	g.wantStat(3, 9+6, 92, 0)
	g.want(g.sweep(1), done(0, 0))
	g.wantStat(3, 0, 107, 0)
	// The first list is made when it is first stepped.
	g.Scavenge()
	g.publish(big("a", "o", "x", 5))
	g.want(g.sweep(99), done(7, 0))
	g.wantStat(7, 0, 103, 0)
}

// 21.10: behind the root it looks again whether something has come; a result that was bound then may need a further root.
func TestSweepLooksAgain(t *testing.T) {
	g := newGround(t, 120, 8)
	g.leave(4, text("a", "o", "x"))
	g.Scavenge()
	g.want(g.sweep(4), going(4)) // 3 Reads, the root: Start is 1
	g.begin(text("b", "p", "y"))
	g.step(4)                    // a result more
	g.want(g.sweep(1), going(1)) // the Flush
	g.want(g.sweep(1), going(1)) // the new result's sector
	g.cancel()
	g.step(1) // it is nobody's now
	g.want(g.sweep(1), going(1))
	if s := g.Engine.slot; s.Turn != 2 || s.Start != 2 {
		t.Errorf("21.10: %+v", s)
	}
	g.want(g.sweep(9), done(1, 0))
	g.wantStat(2, 0, 108, 0)
}

// 21.10: what is broken behind the Flush of a root that it has written.
func TestSweepBrokenBehindRoot(t *testing.T) {
	g := newGround(t, 120, 8)
	g.leave(4, text("a", "o", "x"))
	g.Scavenge()
	g.want(g.sweep(4), going(4))
	g.begin(text("b", "p", "y"))
	g.step(4)
	g.disk.Turn(13, 9) // b's output
	before := g.Stat()
	g.want(g.sweep(9), failed(2, api.ErrBroken))
	if g.Stat() != before {
		t.Errorf("21.10: %+v, want %+v", g.Stat(), before)
	}
	if err := g.Scavenge(); err != api.OK {
		t.Errorf("21.10: behind the end: %d", err)
	}
}

// 21.11: the build waits while the scavenging has the root: in the journal's move, and with the new tree's root.
func TestBuildWaits(t *testing.T) {
	g := newGround(t, 120, 8)
	g.leave(4, text("a", "o", "x"))
	g.begin(text("b", "p", "y"))
	g.step(4 + 3) // behind (3)'s Flush: the root comes next
	g.Scavenge()
	g.want(g.sweep(5), going(5)) // 4 Reads, the root
	for range 3 {
		g.want(g.step(1), waits(0))
		g.want(g.step(9), waits(0))
	}
	if err := g.Cancel(); err != api.OK {
		t.Errorf("21.5: a build that waits is not late: %d", err)
	}
	g.want(g.sweep(1), going(1))
	g.want(g.step(5), failed(0, api.ErrCancelled))

	g = newGround(t, 120, 8)
	g.fillJournal()
	g.Scavenge()
	g.want(g.sweep(11), going(11))
	g.begin(text("b", "p", "y"))
	g.want(g.step(9), waits(2))
	g.want(g.step(9), waits(0))
	g.want(g.sweep(1), going(1))
	// It looks at the journal anew: that has room now.
	g.want(g.step(2), going(2))
	if s := g.Engine.slot; s.Turn != 1 || s.Start != 8 || g.Stat().Records != 1 {
		t.Errorf("21.11: %+v", s)
	}
	g.want(g.step(99), done(1+1+1+2, 1))
	g.want(g.sweep(99), done(3-1+1, 0)) // the new tree's node, its memo, the file
	g.wantStat(3, 0, 107, 0)
}

// 21.4, 21.11: another one's Flush doesn't answer a root: the journal's Start counts from its own Flush on.
func TestOthersFlush(t *testing.T) {
	g := newGround(t, 120, 8)
	g.fillJournal()
	g.Scavenge()
	g.want(g.sweep(11), going(11))
	g.begin(text("b", "p", "y"))
	g.want(g.step(2), going(2)) // the Flush in it makes the scavenging's root last
	g.want(g.step(1), waits(0))
	d := copyOf(g.disk)
	d.Crash()
	if e, _ := Open(d); e.Stat().Turn != 1 || e.Stat().Records != 0 {
		t.Errorf("21.11: %+v", e.Stat())
	}
	g.want(g.sweep(1), going(1))
	g.want(g.step(1), going(1))
}

// 21.11: the scavenging waits while the build has the root; where it would write none it doesn't.
func TestScavengingWaits(t *testing.T) {
	g := newGround(t, 120, 8)
	g.fillJournal()
	g.begin(text("b", "p", "y"))
	g.want(g.step(3), going(3)) // the move's root: Start is 4
	g.Scavenge()
	g.want(g.sweep(99), waits(10))
	g.want(g.sweep(99), waits(0))
	g.want(g.step(1), going(1))
	g.want(g.sweep(1), going(1))
	if s := g.Engine.slot; s.Turn != 2 || s.Start != 8 {
		t.Errorf("21.11: %+v", s)
	}
	g.want(g.step(1), going(1)) // the record 8
	g.want(g.sweep(1), going(1))
	g.want(g.sweep(9), done(1, 0)) // its result is read, and kept
	g.wantStat(3, 0, 107, 1)
	g.want(g.step(99), done(1+3+2, 1))

	// With the new tree's root written, the records of all kept results stand ahead of its Start.
	g = newGround(t, 120, 8)
	g.leave(4, text("a", "o", "x"))
	g.begin(text("b", "p", "y"))
	g.step(8)
	g.Scavenge()
	g.want(g.sweep(99), done(4, 0))
	g.wantStat(2+1+2, 0, 105, 1)
	g.want(g.step(1), done(1, 1))
	g.wantStat(3, 2, 105, 0)
	g.open()
	g.wantCurrent([]api.File{file("p", "y")})
}

// 21.10: nothing that the build under way writes is given back, nor is what it uses of a tree that is let go of.
func TestSweepSparesBuild(t *testing.T) {
	g := newGround(t, 60, 8)
	g.publish(big("a", "o", "x", 3))
	pin := g.pin()
	g.publish("")
	g.begin(big("b", "d/p", "x", 3) + big("c", "d/q", "y", 2))
	g.want(g.step(2), going(2)) // b's bytes are the pinned ones: Flush, record
	g.Unpin(pin)
	g.want(g.step(2), going(2)) // c's first sector
	g.scavenge()
	g.wantStat(2+3+2, 0, 43, 1)
	if g.Check() != none {
		t.Errorf("21.12: %d", g.Check())
	}
	g.cancel()
	g.step(1)
	g.wantStat(2+3, 0, 45, 1)
	g.scavenge()
	g.wantStat(2, 0, 48, 0)

	// Used and not staged, and let go of by the pin: spent when the build ends otherwise.
	g.publish(big("a", "o", "x", 3))
	pin = g.pin()
	g.publish("")
	g.scavenge()
	g.wantStat(2+5, 0, 43, 0)
	g.begin(big("b", "d/p", "x", 3))
	g.want(g.step(1), going(1))
	g.Unpin(pin)
	g.wantStat(2+3, 2, 43, 0)
	g.cancel()
	g.step(1)
	g.wantStat(2, 5, 43, 0)

	// Likewise a node, of the merge; what the merge wrote is free at once.
	g = newGround(t, 60, 8)
	g.publish(text("a", "d/o", "x")) // its output, the nodes of d and the root, the memo
	pin = g.pin()
	g.publish("")
	g.scavenge()
	g.wantStat(2+4, 0, 44, 0)
	g.begin(text("a", "d/o", "x") + text("b", "p", "y"))
	g.want(g.step(3+4+2), going(9)) // of d's node nothing is written; of the root's, and of the memo
	g.wantStat(2+4+3, 0, 41, 2)
	g.Unpin(pin)
	g.wantStat(2+2+3, 2, 41, 2)
	g.cancel()
	g.step(1)
	g.wantStat(2+2, 2+1, 43, 2)
}
