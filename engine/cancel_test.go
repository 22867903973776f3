package engine

import (
	"math"
	"testing"

	"kiln/api"
)

// fillJournal: eight results that are kept, of a build that was cancelled: the journal is full; 8 sectors of the heap are theirs.
func (g *ground) fillJournal() {
	g.t.Helper()
	g.leave(4*8, many(0, 8))
	if s := g.Stat(); s.Kept != 8 || s.Records != 8 {
		g.t.Fatalf("21.4: %+v", s)
	}
}

// 21.5: no build, or one that has ended.
func TestCancelRefused(t *testing.T) {
	g := newGround(t, 40, 8)
	if err := g.Cancel(); err != api.ErrOver {
		t.Errorf("21.5: %d", err)
	}
	g.publish(text("t", "o", "x"))
	if err := g.Cancel(); err != api.ErrOver {
		t.Errorf("21.5: %d", err)
	}
	g.begin("task")
	g.step(1)
	if err := g.Cancel(); err != api.ErrOver {
		t.Errorf("21.5: %d", err)
	}
	g.begin("")
	g.cancel()
	g.step(1)
	if err := g.Cancel(); err != api.ErrOver {
		t.Errorf("21.5: %d", err)
	}
}

// 21.5, 21.4: a Cancel at every act: it ends with no act more; what is not staged is free, what is staged is kept; from the root's Write on it is too late.
func TestCancelAtEachAct(t *testing.T) {
	m := big("a", "o", "x", 3) + big("b", "d/p", "y", 2)
	all := 3 + 1 + 2 + 2 + 1 + 2 + 2 + 1 + 1 + 2
	for at := range all {
		g := newGround(t, 40, 8)
		g.begin(m)
		if at > 0 {
			g.want(g.step(at), going(at))
		}
		if at == all-1 {
			if err := g.Cancel(); err != api.ErrLate {
				t.Fatalf("21.5: %d", err)
			}
			g.want(g.step(7), done(1, 1))
			g.wantStat(8, 2, 20, 0)
			continue
		}
		runs := g.Stat().Runs
		g.cancel()
		g.cancel()
		if p, err := g.Step(0); p != (api.Progress{}) || err != api.ErrSteps {
			t.Fatalf("21.4: %+v, %d", p, err)
		}
		if place, err := g.Begin("", nil); place != 0 || err != api.ErrBusy {
			t.Fatalf("21.3: of a build that is marked: %d", err)
		}
		g.want(g.step(1+at%3), failed(0, api.ErrCancelled))
		switch {
		case at < 5:
			g.wantStat(2, 0, 28, 0)
		case at < 10:
			g.wantStat(5, 0, 25, 1)
		default:
			g.wantStat(7, 0, 23, 2)
		}
		if s := g.Stat(); s.Runs != runs || s.Gen != 0 || s.Turn != 0 {
			t.Fatalf("21.5: %+v", s)
		}
		if n := g.Check(); n != none {
			t.Fatalf("21.12: Check behind a Cancel at %d: %d", at, n)
		}
		g.publish(m)
		if s := g.Stat(); s.Held != 8 || s.Runs != runs+2-kept(at) {
			t.Fatalf("21.4: behind a Cancel at %d: %+v", at, s)
		}
	}
}

// kept: how many results there are so many acts into the build of TestCancelAtEachAct.
func kept(at int) int {
	switch {
	case at < 5:
		return 0
	case at < 10:
		return 1
	}
	return 2
}

// 21.5: a marked build runs no task, though one comes next, and is not told a fault that one would bring.
func TestCancelRunsNothing(t *testing.T) {
	g := newGround(t, 40, 8)
	g.begin("no manifest")
	g.cancel()
	g.want(g.step(1), failed(0, api.ErrCancelled))
	g.begin(text("a", "o", "x") + "task b 9\nout p = fail(\"\")\nend")
	g.step(4)
	g.cancel()
	g.want(g.step(9), failed(0, api.ErrCancelled))
	if g.Stat().Runs != 1 {
		t.Errorf("21.5: %+v", g.Stat())
	}
}

// 21.5: where the build has written the root in the journal's move, its Flush is the one act of the Step that ends it.
func TestCancelInMove(t *testing.T) {
	for _, n := range []int{1, 2, math.MaxInt} {
		g := newGround(t, 80, 8)
		g.fillJournal()
		g.begin(text("t", "o", "x"))
		g.want(g.step(3), going(3)) // output, Flush, root
		g.cancel()
		flushes := g.disk.Acts().Flushes
		g.want(g.step(n), failed(1, api.ErrCancelled))
		if g.disk.Acts().Flushes != flushes+1 {
			t.Errorf("21.5: no Flush")
		}
		if s := g.Stat(); s.Turn != 1 || s.Gen != 0 || s.Records != 4 || s.Kept != 8 {
			t.Errorf("21.5: %+v", s)
		}
		g.wantStat(10, 0, 60, 8)
		// The move counts: the next build's record needs none.
		g.begin(text("t", "o", "x"))
		g.want(g.step(3), going(3))
		if s := g.Stat(); s.Turn != 1 || s.Records != 5 {
			t.Errorf("21.5: %+v", s)
		}
		g.cancel()
		g.want(g.step(n), failed(0, api.ErrCancelled)) // a record's Flush is none of it
		if s := g.Stat(); s.Kept != 9 {
			t.Errorf("21.5: %+v", s)
		}
	}
}

// 21.5: a build that waits for the root may be marked: it ends without an act, and the root stays the other one's.
func TestCancelInWait(t *testing.T) {
	g := newGround(t, 80, 8)
	g.fillJournal()
	g.Scavenge()
	g.want(g.sweep(11), going(11)) // 2 and 8 Reads, and the root's Write
	g.begin(text("t", "o", "x"))
	g.want(g.step(5), waits(2))
	g.cancel()
	g.want(g.step(5), failed(0, api.ErrCancelled))
	g.want(g.sweep(5), done(1, 0))
	g.wantStat(2, 0, 68, 0)
}
