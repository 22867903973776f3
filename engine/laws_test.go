package engine

import (
	"bytes"
	"fmt"
	"math"
	"sync"
	"testing"

	"kiln/api"
	"kiln/chain"
	"kiln/node"
)

// W5, W10: one key, however a tree was made and wherever it lies: afresh, or over any tree, by results, by the memo.
func TestOneKey(t *testing.T) {
	src := []api.File{file("s", "b\na\n")}
	last := lines("task t 99", "in s", "out d/o = sort(in(s))", "out d/e/p = in(s)", "end") + text("u", "top", "T")
	g := newGround(t, 60, 8)
	g.publish(last, src...)
	want := g.Stat().Key
	for _, ahead := range []string{
		"", text("u", "top", "T"), text("x", "d", "a file") + text("y", "top/q", "a directory"),
		big("z", "d/o", "x", 4) + text("u", "top", "T"), last,
	} {
		g = newGround(t, 90, 8)
		g.publish(ahead, src...)
		g.pin()
		g.leave(1, last, src...)
		g.publish(last, src...)
		if g.Stat().Key != want {
			t.Errorf("W5: another key over %q", ahead)
		}
		g.open()
		if g.Stat().Key != want {
			t.Errorf("W10: another key behind Open")
		}
		g.scavenge()
		g.publish("")
		if g.Stat().Key == want {
			t.Error("W10: an unlike tree has the key")
		}
	}
}

// W7, W8: behind a scavenging's end just what is reached is held, and a heap with that room takes the next tree.
func TestRoom(t *testing.T) {
	now := big("a", "d/o", "x", 5) + text("b", "p", "y")
	then := big("c", "d/o", "z", 4) + big("e", "q/r", "w", 3)
	// Each file as often as it comes, twice of the new tree (W8 counts outputs' chains by themselves), nodes, memos.
	room := (5 + 1 + 2 + 1) + (4 + 3 + 3 + 1) + (4 + 3)
	g := newGround(t, 10+room, 8)
	g.publish(now)
	g.leave(6, big("f", "s", "s", 5)) // results are in the way
	g.scavenge()
	g.wantStat(9, 0, room-9, 0)
	g.publish(then)
	g.scavenge()
	g.wantStat(4+3+3+1, 0, room-11, 0)
}

// 21.5, 21.10: what stands in the way of a build is given back at last, however often builds end otherwise.
func TestNothingIsLost(t *testing.T) {
	g := newGround(t, 60, 8)
	m := big("a", "d/o", "x", 5) + text("b", "p", "y") + big("c", "q", "z", 2)
	for i := range 100 {
		pin := g.pin()
		g.begin(m)
		g.step(1 + i%19)
		if g.Engine.build != nil && g.Cancel() == api.OK {
			g.step(1)
		} else if g.Engine.build != nil {
			g.step(1)
		}
		g.Unpin(pin)
		if i%3 == 0 {
			g.scavenge()
			if s := g.Stat(); s.Held != len(g.listed()) || s.Spent != 0 || s.Kept != 0 {
				t.Fatalf("W7: %+v", s)
			}
		}
		if i%10 == 0 {
			g.publish("")
		}
	}
}

// W11: within how many acts a build, a scavenging, a reading end, whatever they are asked for at once.
func TestEnds(t *testing.T) {
	for _, n := range []int{1, 2, 3, 5, 100, math.MaxInt} {
		g := newGround(t, 90, 8)
		g.begin(big("a", "d/o", "x", 5) + text("b", "p", "y"))
		acts, calls := 0, 0
		for p := (api.Progress{}); !p.Ended; calls++ {
			p = g.step(n)
			acts += p.Acts
		}
		if acts != 5+1+2+1+3*2+3 || n < 100 && calls != (acts+n-1)/n {
			t.Errorf("21.6: %d acts in %d calls of %d", acts, calls, n)
		}
		pin := g.pin()
		r := g.reading(pin, "d/o")
		reads := g.disk.Acts().Reads
		for ended := false; !ended; {
			_, ended, _ = r.More(n)
		}
		if reads = g.disk.Acts().Reads - reads; reads != 7 {
			t.Errorf("W11: %d Reads", reads)
		}
		g.Scavenge()
		acts = 0
		for p := (api.Progress{}); !p.Ended; {
			p = g.sweep(n)
			acts += p.Acts
		}
		if acts != 9 {
			t.Errorf("W11: %d acts", acts)
		}
	}
}

// 21.13: two engines over two disks know nothing of one another.
func TestTwoEngines(t *testing.T) {
	a, b := newGround(t, 60, 8), newGround(t, 60, 8)
	m := text("a", "o", "x") + text("b", "d/p", "y")
	a.begin(m)
	b.begin("")
	a.step(7)
	b.step(1)
	b.cancel()
	b.step(1)
	b.scavenge()
	pin := b.pin()
	a.step(99)
	b.publish(text("c", "q", "z"))
	b.wantTree(pin, nil)
	a.wantCurrent([]api.File{file("d/p", "y"), file("o", "x")})
	b.wantCurrent([]api.File{file("q", "z")})
	if err := a.Unpin(pin); err != api.ErrPin {
		t.Errorf("21.13: %d", err)
	}
}

// 21.13: nothing is kept in common: engines side by side.
func TestSideBySide(t *testing.T) {
	var all sync.WaitGroup
	for i := range 8 {
		all.Go(func() {
			newWorld(t, int64(9000+i), map[string]int{}).live(60)
		})
	}
	all.Wait()
}

// DOC: a manifest's limits in one build: 256 tasks of eight outputs each would be more than a manifest holds; as many as fit, in directories of their own.
func TestManyOutputs(t *testing.T) {
	var m bytes.Buffer
	var files []api.File
	for i := range api.MaxTasks {
		fmt.Fprintf(&m, "task t%d 99\n", i)
		for j := range api.MaxOuts {
			path := fmt.Sprintf("d%03d/%d", i, j)
			fmt.Fprintf(&m, "out %s = \"%d\"\n", path, i%50)
			files = append(files, file(path, fmt.Sprint(i%50)))
		}
		m.WriteString("end\n")
	}
	if m.Len() > api.MaxManifest {
		t.Fatal(m.Len())
	}
	g := newGround(t, 1600, 32)
	g.publish(m.String())
	g.wantCurrent(files)
	if s := g.Stat(); s.Runs != api.MaxTasks || s.Turn < 10 {
		t.Errorf("21.4: %+v", s)
	}
	if n := chain.Sectors(g.Engine.current.note.Len); n != chain.Sectors(3+api.MaxTasks*(33+40*api.MaxOuts)) {
		t.Errorf("21: a memo of %d sectors", n)
	}
	g.open()
	if n := g.publish(m.String()); n != 3 || g.Stat().Runs != 0 {
		t.Errorf("21.4: once more: %d acts, %+v", n, g.Stat())
	}
}

// DOC: values at their bounds, one of which goes into a directory's node's place.
func TestLongValues(t *testing.T) {
	long := bytes.Repeat([]byte("0123456789abcdef"), api.MaxFile/16)
	g := newGround(t, 2000, 8)
	m := lines("task t 99999", "in s", "out o = in(s)", "out d/p = upper(in(s))", "end")
	g.publish(m, api.File{Path: "s", Data: long})
	g.wantCurrent([]api.File{{Path: "d/p", Data: bytes.ToUpper(long)}, {Path: "o", Data: long}})
	if s := g.Stat(); s.Held != 2*chain.Sectors(api.MaxFile)+3 {
		t.Errorf("21.12: %+v", s)
	}
	g.want(g.build(lines("task t 99999", "in s", "out o = cat(in(s),\"x\")", "end"), api.File{Path: "s", Data: long}),
		api.Progress{Ended: true, Fault: api.Fault{Err: api.ErrValue, Task: "t"}})
	b, _ := node.Encode(nil)
	g.publish(lines("task t 99999", "in s", "out n = in(s)", "end"), api.File{Path: "s", Data: b})
	g.wantCurrent([]api.File{{Path: "n", Data: b}})
}
