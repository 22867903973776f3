package mark

import (
	"slices"
	"strconv"
	"testing"

	"kiln/api"
	"kiln/chain"
	"kiln/node"
)

// reach: the chains that something leads to, by what was written, without looking at the disk.
type reach struct {
	refs  map[api.Ref]int
	dirs  map[api.Ref]int
	nodes map[api.Ref][]api.Entry
}

// newReach: with the directories of a world, read whole from a copy of its disk.
func (w *world) newReach() *reach {
	r := &reach{refs: map[api.Ref]int{}, dirs: map[api.Ref]int{}, nodes: map[api.Ref][]api.Entry{}}
	d := copied(w.disk)
	for _, e := range w.made {
		if b, _, _ := chain.Get(d, w.heap, e.Ref); e.Dir {
			r.nodes[e.Ref], _ = node.Decode(b)
		}
	}
	return r
}

func (r *reach) add(e api.Entry) {
	r.refs[e.Ref]++
	if !e.Dir || r.dirs[e.Ref] > 0 {
		return
	}
	r.dirs[e.Ref]++
	for _, below := range r.nodes[e.Ref] {
		r.add(below)
	}
}

// sectors: how many the chains have, each ref's counted once, and which these are.
func (r *reach) sectors(g *ground) (int, []int) {
	var count int
	var l []int
	for ref := range r.refs {
		count += chain.Sectors(ref.Len)
		l = append(l, g.numbers[ref]...)
	}
	slices.Sort(l)
	return count, slices.Compact(l)
}

// 20.6, 20.7: of whole trees and chains, whatever is added when: just what is reachable, within as many Steps as it has sectors, and one.
func TestJustReachable(t *testing.T) {
	for seed := range int64(2000) {
		w := newWorld(t, 100000+seed, false)
		r, m := w.newReach(), w.mark(t)
		var numbers []int
		steps, calls := 0, 0
		for ended := false; !ended || calls < 8; {
			if w.Intn(3) == 0 && calls < 8 {
				calls++
				e := w.one()
				if w.Intn(3) == 0 {
					e.Dir = false
				}
				r.add(e)
				if e.Dir {
					m.AddRoot(e.Key, e.Ref)
				} else {
					m.AddRef(e.Ref)
				}
				n := w.Intn(w.disk.Sectors() + 50)
				numbers = append(numbers, n)
				m.AddNumbers(n)
				ended = false
				continue
			}
			var err api.Errno
			reads := w.disk.Acts().Reads
			ended, err = m.Step()
			if err != api.OK || m.Broken() != -1 {
				t.Fatalf("20.6: %d, Broken %d", err, m.Broken())
			}
			steps += w.disk.Acts().Reads - reads
		}
		count, want := r.sectors(w.ground)
		want = slices.Sorted(slices.Values(append(want, numbers...)))
		if got := m.Held(); !slices.Equal(got, slices.Compact(want)) {
			t.Fatalf("20.6: Held: %v, want %v", got, want)
		}
		if steps != count {
			t.Fatalf("20.7: %d Reads of %d sectors", steps, count)
		}
	}
}

// 20.7: if nothing is added meanwhile.
func TestSteps(t *testing.T) {
	for seed := range int64(1000) {
		w := newWorld(t, 200000+seed, false)
		r, m := w.newReach(), w.mark(t)
		for range w.Intn(6) {
			if e := w.one(); e.Dir {
				r.add(e)
				m.AddRoot(e.Key, e.Ref)
			} else {
				r.add(e)
				m.AddRef(e.Ref)
			}
		}
		count, _ := r.sectors(w.ground)
		steps := 0
		for ended := false; !ended; steps++ {
			ended, _ = m.Step()
		}
		if steps > count+1 {
			t.Fatalf("20.7: %d Steps, %d sectors", steps, count)
		}
	}
}

// 20.6, 20.7: a tree of few nodes and very many paths is gone through node by node.
func TestManyPaths(t *testing.T) {
	g := newGround(t, 200, 10)
	e := g.file(t, "", 3, 'x')
	for range 100 {
		e = g.dir(t, "", as(e, "a"), as(e, "b"), as(e, "c"))
	}
	m := g.mark(t)
	m.AddRoot(e.Key, e.Ref)
	for k := range 101 {
		wantStep(t, g.disk, m, k == 100, api.OK, 1)
	}
	if l := m.Held(); len(l) != 101 || l[0] != 10 || l[100] != 110 {
		t.Errorf("20.6: %v", l)
	}
}

// 20.6: directories in one another, far deeper than a path goes.
func TestDeep(t *testing.T) {
	g := newGround(t, 20010, 5)
	e := g.file(t, "", 0, 0)
	for range 20000 {
		e = g.dir(t, "", as(e, "d"))
	}
	m := g.mark(t)
	m.AddRoot(e.Key, e.Ref)
	for k := range 20001 {
		wantStep(t, g.disk, m, k == 20000, api.OK, 1)
	}
	if l := m.Held(); len(l) != 20001 || l[0] != 5 || l[20000] != 20005 {
		t.Errorf("20.6: %d sectors", len(l))
	}
}

// 20.6: a directory of as many names as there may be, which have one chain, or each its own.
func TestWide(t *testing.T) {
	g := newGround(t, 3000, 10)
	one := g.file(t, "", 500, 'x')
	var same, own []api.Entry
	for i := range api.MaxDir {
		name := strconv.Itoa(10000 + i)
		same = append(same, as(one, name))
		own = append(own, as(g.file(t, "", 1+i%480, byte(i)), name))
	}
	for _, l := range [][]api.Entry{same, own} {
		e := g.dir(t, "", l...)
		refs := []api.Ref{e.Ref}
		for _, x := range l {
			refs = append(refs, x.Ref)
		}
		want := g.of(refs...)
		m := g.mark(t)
		m.AddRoot(e.Key, e.Ref)
		for k := range len(want) {
			wantStep(t, g.disk, m, k == len(want)-1, api.OK, 1)
		}
		wantHeld(t, m, want...)
	}
}

// 20.8: one bit, of whichever place, in whichever sector of what is reachable.
func TestEveryBit(t *testing.T) {
	g, l := laid(t)
	for sector := 10; sector <= 20; sector++ {
		for bit := sector % 3; bit < 4096; bit += 3 {
			g.turn(t, sector, bit)
			m := g.mark(t)
			m.AddRef(l["d"].Ref)
			m.AddRoot(l[""].Key, l[""].Ref)
			err, steps := api.OK, 0
			for ended := false; !ended; steps++ {
				ended, err = m.Step()
			}
			if err != api.ErrBroken || m.Broken() != sector || steps > 11 {
				t.Fatalf("20.8: bit %d of sector %d: %d, %d", bit, sector, err, m.Broken())
			}
			g.turn(t, sector, bit)
		}
	}
}

// 20.8: one bit in what is reachable is told, one in what is not is never met.
func TestOneBit(t *testing.T) {
	for seed := range int64(2000) {
		w := newWorld(t, 300000+seed, false)
		r, m := w.newReach(), w.mark(t)
		for range 3 {
			if e := w.one(); e.Dir {
				r.add(e)
				m.AddRoot(e.Key, e.Ref)
			} else {
				r.add(e)
				m.AddRef(e.Ref)
			}
		}
		_, reached := r.sectors(w.ground)
		sector := w.Intn(w.disk.Sectors())
		if w.Intn(3) > 0 {
			sector = reached[w.Intn(len(reached))]
		}
		w.turn(t, sector, w.Intn(4096))
		err := api.OK
		for ended := false; !ended; {
			ended, err = m.Step()
		}
		if !slices.Contains(reached, sector) {
			if err != api.OK || m.Broken() != -1 {
				t.Fatalf("20.8: sector %d is not reached: %d, %d", sector, err, m.Broken())
			}
		} else if err != api.ErrBroken || m.Broken() != sector {
			t.Fatalf("20.8: sector %d: %d, %d", sector, err, m.Broken())
		}
	}
}

// 20.2: each Read is made when its Step is: what has been read is not looked at again, what has not is as it is then.
func TestDiskMeanwhile(t *testing.T) {
	g, l := laid(t)
	m := g.mark(t)
	m.AddRoot(l["a"].Key, l["a"].Ref)
	wantStep(t, g.disk, m, false, api.OK, 1)
	wantStep(t, g.disk, m, false, api.OK, 1)
	g.turn(t, 15, 400)
	g.turn(t, 10, 400)
	wantReads(t, g.disk, m, 11, 12)
	m.AddRoot(l["a"].Key, l["a"].Ref)
	m.AddRef(l["f"].Ref)
	wantStep(t, g.disk, m, true, api.OK, 0)
	m.AddRoot(l["b"].Key, l["b"].Ref)
	g.turn(t, 16, 400)
	wantFlaw(t, g.disk, m, 16, 1)
	g.turn(t, 13, 400)
	m = g.mark(t)
	m.AddRef(l["c"].Ref)
	g.turn(t, 13, 400)
	wantReads(t, g.disk, m, 13, 14)
}

// 20.2: what is in the disk's cache is read, and neither flushed nor lost.
func TestCache(t *testing.T) {
	g, l := laid(t)
	m := g.mark(t)
	m.AddRoot(l["a"].Key, l["a"].Ref)
	wantReads(t, g.disk, m, 15, 10, 11, 12)
	g.disk.Crash()
	m = g.mark(t)
	m.AddRoot(l["a"].Key, l["a"].Ref)
	wantFlaw(t, g.disk, m, 15, 1)
}
