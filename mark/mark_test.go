package mark

import (
	"bytes"
	"slices"
	"strings"
	"testing"

	"kiln/api"
	"kiln/chain"
	"kiln/disk"
)

// wantStep: one Step, what it answers, and how many Reads it does.
func wantStep(t *testing.T, d *disk.Disk, m *Mark, ended bool, err api.Errno, reads int) {
	t.Helper()
	acts := d.Acts()
	gotEnded, got := m.Step()
	acts.Reads += reads
	if gotEnded != ended || got != err || d.Acts() != acts {
		t.Fatalf("20.2: Step: %t, %d, %v, want %t, %d, %v", gotEnded, got, d.Acts(), ended, err, acts)
	}
}

// wantBroken: what Broken tells.
func wantBroken(t *testing.T, m *Mark, want int) {
	t.Helper()
	if got := m.Broken(); got != want {
		t.Fatalf("20.3: Broken: %d, want %d", got, want)
	}
}

// wantHeld: what Held tells.
func wantHeld(t *testing.T, m *Mark, want ...int) {
	t.Helper()
	if got := m.Held(); !slices.Equal(got, want) {
		t.Fatalf("20.4: Held: %v, want %v", got, want)
	}
}

// wantReads: Steps that read just these sectors, in this order, the last one of which ends.
func wantReads(t *testing.T, d *disk.Disk, m *Mark, want ...int) {
	t.Helper()
	held := m.Held()
	for i, n := range want {
		wantStep(t, d, m, i == len(want)-1, api.OK, 1)
		if slices.Contains(held, n) {
			t.Fatalf("20.2: %d is read twice", n)
		}
		held = append(held, n)
		slices.Sort(held)
		wantHeld(t, m, held...)
	}
	wantBroken(t, m, -1)
	wantStep(t, d, m, true, api.OK, 0)
	wantHeld(t, m, held...)
}

// wantFlaw: a Step that comes to something broken, with so many Reads; and that it stays so.
func wantFlaw(t *testing.T, d *disk.Disk, m *Mark, sector, reads int) {
	t.Helper()
	wantBroken(t, m, -1)
	wantStep(t, d, m, true, api.ErrBroken, reads)
	wantBroken(t, m, sector)
	wantStep(t, d, m, true, api.ErrBroken, 0)
	wantBroken(t, m, sector)
}

// The examples of the chapter.
func TestExamples(t *testing.T) {
	d, _ := disk.New(40)
	m, err := New(d, 10)
	if m == nil || err != api.OK {
		t.Fatalf("20.1: New: %v, %d", m, err)
	}
	wantStep(t, d, m, true, api.OK, 0)
	wantHeld(t, m)
	wantBroken(t, m, -1)
	m.AddRef(api.Ref{Hash: hashed([]byte("abc")), First: 12, Len: 3})
	wantFlaw(t, d, m, 12, 1)
	wantHeld(t, m, 12)
	m, _ = New(d, 10)
	m.AddNumbers(3, 1, 3)
	wantHeld(t, m, 1, 3)
}

// 20.1: which heaps there may be.
func TestNew(t *testing.T) {
	for _, heap := range append([]int{0, 1, 2, 10}, far...) {
		if m, err := New(nil, heap); m != nil || err != api.ErrArg {
			t.Errorf("20.1: no disk, heap %d: %v, %d", heap, m, err)
		}
	}
	for _, sectors := range []int{2, 3, 40, 65536} {
		d, _ := disk.New(sectors)
		for _, heap := range append([]int{0, 1, 2, sectors - 1, sectors, sectors + 1, 65535, 65536}, far...) {
			want := api.OK
			if heap < 1 || heap > sectors-1 {
				want = api.ErrArg
			}
			m, err := New(d, heap)
			if err != want || (m != nil) != (want == api.OK) {
				t.Errorf("20.1: %d sectors, heap %d: %v, %d", sectors, heap, m, err)
			}
			if m != nil {
				wantHeld(t, m)
				wantBroken(t, m, -1)
				wantStep(t, d, m, true, api.OK, 0)
			}
		}
		if d.Acts() != (api.Acts{}) {
			t.Errorf("20.5: acts: %v", d.Acts())
		}
	}
}

// 20.2: chains of each length, one Read a Step.
func TestRefs(t *testing.T) {
	for _, size := range []int{0, 1, 479, 480, 481, 960, 961, 4800} {
		g := newGround(t, 60, 7)
		e := g.file(t, "", size, 'x')
		m := g.mark(t)
		m.AddRef(e.Ref)
		wantReads(t, g.disk, m, g.numbers[e.Ref]...)
	}
}

// 20.2: the longest chain there may be, whose sectors lie anywhere.
func TestLongest(t *testing.T) {
	g := newGround(t, 5000, 10)
	for n := 10; n < 4500; n += 2 {
		g.space.Claim(n)
	}
	e := g.file(t, "", api.MaxChain, 'y')
	m := g.mark(t)
	m.AddRef(e.Ref)
	for k := range 2185 {
		wantStep(t, g.disk, m, k == 2184, api.OK, 1)
	}
	wantHeld(t, m, g.of(e.Ref)...)
	m = g.mark(t)
	e.Ref.Len++
	m.AddRef(e.Ref)
	wantFlaw(t, g.disk, m, e.Ref.First, 0)
}

// laid: on a ground of 60 sectors, heap 10: a tree of a/f, b (the same directory as a by another chain), c and d.
func laid(t *testing.T) (*ground, map[string]api.Entry) {
	t.Helper()
	g := newGround(t, 60, 10)
	l := map[string]api.Entry{}
	l["f"] = g.file(t, "f", 1000, 'f') // 10 11 12
	l["c"] = g.file(t, "c", 500, 'c')  // 13 14
	l["a"] = g.dir(t, "a", l["f"])     // 15
	l["b"] = g.dir(t, "b", l["f"])     // 16
	l["d"] = g.file(t, "d", 0, 0)      // 17
	l["e"] = g.dir(t, "e")             // 18
	var all []api.Entry
	for _, name := range []string{"a", "b", "c", "d", "e"} {
		all = append(all, as(l[name], name+strings.Repeat("-", 30))) // so that the root has two sectors
	}
	l[""] = g.dir(t, "", all...)
	return g, l // the root: 19, 20
}

// 20.2: a root's node, then its entries in their order; a directory's node ahead of what is in it.
func TestOrder(t *testing.T) {
	g, l := laid(t)
	m := g.mark(t)
	m.AddRoot(l[""].Key, l[""].Ref)
	wantReads(t, g.disk, m, 19, 20, 15, 10, 11, 12, 16, 13, 14, 17, 18)
}

// 20.2: what was added is gone through in the order of adding, whatever kind it is.
func TestOrderOfAdding(t *testing.T) {
	g, l := laid(t)
	m := g.mark(t)
	m.AddRef(l["d"].Ref)
	m.AddRoot(l["b"].Key, l["b"].Ref)
	m.AddRef(l["c"].Ref)
	m.AddRef(l["d"].Ref)
	m.AddRoot(l["e"].Key, l["e"].Ref)
	m.AddRoot(l["a"].Key, l["a"].Ref)
	m.AddRef(l[""].Ref)
	wantReads(t, g.disk, m, 17, 16, 10, 11, 12, 13, 14, 18, 15, 19, 20)
}

// 20.2: what is added meanwhile comes behind all that was added ahead of it, wherever the mark stands.
func TestAddedMeanwhile(t *testing.T) {
	want := []int{19, 20, 15, 10, 11, 12, 16, 13, 14, 17, 18, 21, 22, 23}
	for steps := range 12 {
		g, l := laid(t)
		first := g.file(t, "", 490, '1') // 21 22
		second := g.dir(t, "", named("x", first.Ref), as(l["a"], "y"))
		m := g.mark(t)
		m.AddRoot(l[""].Key, l[""].Ref)
		for i := range steps {
			wantStep(t, g.disk, m, i == 10, api.OK, 1)
		}
		m.AddRef(first.Ref)
		m.AddRoot(second.Key, second.Ref)
		wantReads(t, g.disk, m, want[steps:]...)
	}
}

// 20.2: behind the end, what is added makes it go on, again and again.
func TestGoesOn(t *testing.T) {
	g, l := laid(t)
	m := g.mark(t)
	wantStep(t, g.disk, m, true, api.OK, 0)
	m.AddRef(l["c"].Ref)
	wantReads(t, g.disk, m, 13, 14)
	m.AddRoot(l["a"].Key, l["a"].Ref)
	wantReads(t, g.disk, m, 15, 10, 11, 12)
	m.AddNumbers(50)
	wantStep(t, g.disk, m, true, api.OK, 0)
	m.AddRoot(l[""].Key, l[""].Ref)
	wantReads(t, g.disk, m, 19, 20, 16, 17, 18)
}

// 20.2: a chain whose ref was gone through before is not read again: not one that was added twice, nor one that another tree has.
func TestNotAgain(t *testing.T) {
	g, l := laid(t)
	m := g.mark(t)
	m.AddRoot(l["a"].Key, l["a"].Ref)
	m.AddRoot(l["a"].Key, l["a"].Ref)
	m.AddRef(l["a"].Ref)
	m.AddRef(l["f"].Ref)
	wantReads(t, g.disk, m, 15, 10, 11, 12)
	for range 3 {
		m.AddRef(l["f"].Ref)
		m.AddRoot(l["a"].Key, l["a"].Ref)
		m.AddRef(l["a"].Ref)
		wantStep(t, g.disk, m, true, api.OK, 0)
	}
	m.AddRoot(l["b"].Key, l["b"].Ref)
	wantReads(t, g.disk, m, 16)
}

// 20.2: chains that hold the same bytes elsewhere, or refs that begin alike, are each read.
func TestSameBytes(t *testing.T) {
	g := newGround(t, 30, 10)
	one, two := g.file(t, "", 700, 'x'), g.file(t, "", 700, 'x')
	if one.Ref == two.Ref || one.Ref.Hash != two.Ref.Hash {
		t.Fatal("these are no two chains of the same bytes")
	}
	m := g.mark(t)
	m.AddRef(one.Ref)
	m.AddRef(two.Ref)
	wantReads(t, g.disk, m, 10, 11, 12, 13)
	for _, change := range []func(*api.Ref){
		func(r *api.Ref) { r.Len-- },
		func(r *api.Ref) { r.Len++ },
		func(r *api.Ref) { r.Hash[0]++ },
		func(r *api.Ref) { r.Hash[7]++ },
	} {
		m := g.mark(t)
		m.AddRef(one.Ref)
		wantReads(t, g.disk, m, 10, 11)
		ref := one.Ref
		change(&ref)
		m.AddRef(ref)
		acts := g.disk.Acts().Reads
		for ended := false; !ended; {
			ended, _ = m.Step()
		}
		if g.disk.Acts().Reads == acts || m.Broken() == -1 {
			t.Errorf("20.2: %v is taken for %v", ref, one.Ref)
		}
	}
}

// 20.2: a chain that was read for its own sake leads on when it is added as a root later, without being read again.
func TestRefThenRoot(t *testing.T) {
	g, l := laid(t)
	m := g.mark(t)
	m.AddRef(l[""].Ref)
	wantReads(t, g.disk, m, 19, 20)
	m.AddRef(l["a"].Ref)
	wantReads(t, g.disk, m, 15)
	m.AddRoot(l[""].Key, l[""].Ref)
	wantReads(t, g.disk, m, 10, 11, 12, 16, 13, 14, 17, 18)
	m.AddRoot(l[""].Key, l[""].Ref)
	m.AddRoot(l["a"].Key, l["a"].Ref)
	wantStep(t, g.disk, m, true, api.OK, 0)
}

// 20.2: a file that has a node's bytes leads to nothing; a directory of the same chain does, whether it comes ahead of the file or behind it.
func TestFileOfNode(t *testing.T) {
	g, l := laid(t)
	file, dir := named("", l["a"].Ref), l["a"]
	alone := g.dir(t, "", as(file, "x"))
	ahead := g.dir(t, "", as(dir, "x"), as(file, "y"))
	behind := g.dir(t, "", as(file, "x"), as(l["d"], "y"), as(dir, "z"))
	m := g.mark(t)
	m.AddRoot(alone.Key, alone.Ref)
	wantReads(t, g.disk, m, 21, 15)
	m = g.mark(t)
	m.AddRoot(ahead.Key, ahead.Ref)
	wantReads(t, g.disk, m, 22, 15, 10, 11, 12)
	m = g.mark(t)
	m.AddRoot(behind.Key, behind.Ref)
	wantReads(t, g.disk, m, 23, 15, 17, 10, 11, 12)
}

// 20.2: behind a Read, what was read before is gone through in the same Step, up to what is to be read, or to the end.
func TestGoneThroughBehind(t *testing.T) {
	g, l := laid(t)
	end := g.dir(t, "", as(l["c"], "x"), as(l["f"], "y"), as(l["a"], "z"))
	m := g.mark(t)
	m.AddRef(l["f"].Ref)
	m.AddRoot(l["a"].Key, l["a"].Ref)
	wantReads(t, g.disk, m, 10, 11, 12, 15)
	m.AddRef(l["a"].Ref)
	m.AddRoot(end.Key, end.Ref)
	m.AddRef(l["f"].Ref)
	m.AddRoot(l["a"].Key, l["a"].Ref)
	wantReads(t, g.disk, m, 21, 13, 14)
}

// 20.2, 20.3: a First that is no heap sector, and a Len outside, are told without a Read, and Broken is that First.
func TestNoChain(t *testing.T) {
	good := api.Ref{Hash: hashed(nil), First: 10}
	var l []api.Ref
	for _, first := range append([]int{0, 1, 9, 40, 41, 65535, 65536}, far...) {
		l = append(l, api.Ref{Hash: good.Hash, First: first}, api.Ref{Hash: good.Hash, First: first, Len: -1})
	}
	for _, size := range append([]int{-1, api.MaxChain + 1}, far...) {
		l = append(l, api.Ref{Hash: good.Hash, First: 10, Len: size}, api.Ref{Hash: good.Hash, First: 39, Len: size})
	}
	for _, ref := range l {
		d, _ := disk.New(40)
		for _, root := range []bool{false, true} {
			m, _ := New(d, 10)
			if root {
				m.AddRoot(hashed([]byte{1}), ref)
			} else {
				m.AddRef(ref)
			}
			wantFlaw(t, d, m, ref.First, 0)
			wantHeld(t, m)
		}
	}
}

// 20.2: both ends of the heap are heap sectors.
func TestHeapEnds(t *testing.T) {
	d, _ := disk.New(40)
	for _, n := range []int{10, 39} {
		g := newGround(t, 40, 10)
		for k := 10; k < n; k++ {
			g.space.Claim(k)
		}
		e := g.file(t, "", 9, 'x')
		m := g.mark(t)
		m.AddRef(e.Ref)
		wantReads(t, g.disk, m, n)
		m, _ = New(d, 10)
		m.AddRef(api.Ref{First: n, Len: 5})
		wantFlaw(t, d, m, n, 1)
	}
	g := newGround(t, 3, 1)
	e := g.file(t, "", 481, 'x')
	m := g.mark(t)
	m.AddRef(e.Ref)
	wantReads(t, g.disk, m, 1, 2)
	m, _ = New(g.disk, 2)
	m.AddRef(e.Ref)
	wantFlaw(t, g.disk, m, 1, 0)
}

// 20.2: a chain that leads out of the heap is broken where it does so; one that begins below the heap, though it is whole, needs no Read for that.
func TestOutOfHeap(t *testing.T) {
	g := newGround(t, 40, 5)
	ref := g.file(t, "", 1000, 'x').Ref // 5 6 7
	g.disk.Flush()
	small, _ := disk.Load(g.disk.Image()[:7])
	m, _ := New(small, 5)
	m.AddRef(ref)
	wantStep(t, small, m, false, api.OK, 1)
	wantFlaw(t, small, m, 6, 1)
	wantHeld(t, m, 5, 6)
	high := newGround(t, 40, 5)
	high.space.Claim(5)
	first := high.file(t, "", 9, 'y') // 6
	high.space.Give(5)
	high.space.Claim(7)
	ref = high.file(t, "", 1000, 'z').Ref // 5 8 9
	m, _ = New(high.disk, 6)
	m.AddRef(first.Ref)
	m.AddRef(ref)
	wantStep(t, high.disk, m, false, api.OK, 1)
	wantFlaw(t, high.disk, m, 5, 0)
}

// 20.2, 20.3: of a chain the sector that is not as it was written, and nothing behind it is read.
func TestBrokenSector(t *testing.T) {
	for k := range 3 {
		g, l := laid(t)
		g.turn(t, 10+k, 1000)
		m := g.mark(t)
		m.AddRoot(l["a"].Key, l["a"].Ref)
		wantStep(t, g.disk, m, false, api.OK, 1)
		for range k {
			wantStep(t, g.disk, m, false, api.OK, 1)
		}
		wantFlaw(t, g.disk, m, 10+k, 1)
		wantHeld(t, m, append([]int{10, 11, 12}[:k+1], 15)...)
	}
}

// 20.2, 20.3: with a chain's last sector, other bytes than its hash: Broken is the ref's First.
func TestOtherHash(t *testing.T) {
	g, l := laid(t)
	for _, e := range []api.Entry{l["f"], l["c"], l["d"], l[""]} {
		for _, at := range []int{8, 31} {
			ref := e.Ref
			ref.Hash[at] ^= 1
			for _, root := range []bool{false, true} {
				m := g.mark(t)
				if root {
					m.AddRoot(e.Key, ref)
				} else {
					m.AddRef(ref)
				}
				for range chain.Sectors(ref.Len) - 1 {
					wantStep(t, g.disk, m, false, api.OK, 1)
				}
				wantFlaw(t, g.disk, m, ref.First, 1)
				wantHeld(t, m, g.of(e.Ref)...)
			}
		}
	}
}

// 20.2, 20.3: bytes that are no node, of a root: with its chain's last Read; without one, if it was read before.
func TestNoNode(t *testing.T) {
	g, l := laid(t)
	almost, _ := noded(t, l["f"])
	texts := [][]byte{{}, {1}, {2, 0}, {1, 0, 0}, almost[:len(almost)-1], append(slices.Clone(almost), 0), bytes.Repeat([]byte{1}, 1000)}
	for _, b := range texts {
		ref := g.put(t, b)
		for _, key := range []api.Key{{}, hashed(b), hashed([]byte{1}), l["a"].Key} {
			m := g.mark(t)
			m.AddRoot(key, ref)
			for range chain.Sectors(len(b)) - 1 {
				wantStep(t, g.disk, m, false, api.OK, 1)
			}
			wantFlaw(t, g.disk, m, ref.First, 1)
			wantHeld(t, m, g.of(ref)...)
			m = g.mark(t)
			m.AddRef(ref)
			wantReads(t, g.disk, m, g.numbers[ref]...)
			m.AddRoot(key, ref)
			wantFlaw(t, g.disk, m, ref.First, 0)
			wantHeld(t, m, g.of(ref)...)
		}
	}
}

// 20.2, 20.3: a node whose key is another: with its chain's last Read; without one, if it was read before, as a file or as a directory.
func TestOtherKey(t *testing.T) {
	g, l := laid(t)
	for _, e := range []api.Entry{l[""], l["a"], l["e"]} {
		for _, key := range []api.Key{{}, e.Ref.Hash, l["f"].Key, off(e.Key, 0), off(e.Key, 31)} {
			m := g.mark(t)
			m.AddRoot(key, e.Ref)
			for range chain.Sectors(e.Ref.Len) - 1 {
				wantStep(t, g.disk, m, false, api.OK, 1)
			}
			wantFlaw(t, g.disk, m, e.Ref.First, 1)
			m = g.mark(t)
			m.AddRef(e.Ref)
			wantReads(t, g.disk, m, g.numbers[e.Ref]...)
			m.AddRoot(key, e.Ref)
			wantFlaw(t, g.disk, m, e.Ref.First, 0)
			m = g.mark(t)
			m.AddRoot(e.Key, e.Ref)
			for ended := false; !ended; {
				ended, _ = m.Step()
			}
			m.AddRoot(key, e.Ref)
			wantFlaw(t, g.disk, m, e.Ref.First, 0)
		}
	}
}

// 20.2, 20.3: the same of a directory in a tree: something broken behind a Read that needs no Read itself is told by the next Step, and Broken till then tells nothing.
func TestBrokenBehind(t *testing.T) {
	lies := []func(*api.Entry){
		func(e *api.Entry) { e.Ref.First = 9 },
		func(e *api.Entry) { e.Ref.First = 0 },
		func(e *api.Entry) { e.Ref.First = 60 },
		func(e *api.Entry) { e.Ref.First = 65535 },
		func(e *api.Entry) { e.Key[3]++ }, // of the directory that was read just before
	}
	for _, lie := range lies {
		g, l := laid(t)
		bad := as(l["e"], "y")
		lie(&bad)
		top := g.dir(t, "", as(l["e"], "x"), bad, as(l["f"], "z"))
		m := g.mark(t)
		m.AddRoot(top.Key, top.Ref)
		wantStep(t, g.disk, m, false, api.OK, 1)
		wantStep(t, g.disk, m, false, api.OK, 1)
		wantFlaw(t, g.disk, m, bad.Ref.First, 0)
		wantHeld(t, m, 18, 21)
	}
}

// 20.2: of a directory's chain that is read now, what is no node, or has another key, is told with its last Read.
func TestBrokenDirectory(t *testing.T) {
	g, l := laid(t)
	other := l["b"]
	other.Key[9] ^= 8
	none := as(l["c"], "b")
	none.Dir = true
	for _, bad := range []api.Entry{other, none} {
		top := g.dir(t, "", as(l["e"], "a"), bad, l["f"])
		m := g.mark(t)
		m.AddRoot(top.Key, top.Ref)
		for range 1 + len(g.numbers[bad.Ref]) {
			wantStep(t, g.disk, m, false, api.OK, 1)
		}
		wantFlaw(t, g.disk, m, bad.Ref.First, 1)
		wantHeld(t, m, slices.Sorted(slices.Values(append(g.of(l["e"].Ref, bad.Ref), g.of(top.Ref)...)))...)
	}
}

// 20.2: between the Step that came up to something broken and the one that tells it, adding changes nothing of it.
func TestAddedAheadOfFlaw(t *testing.T) {
	g, l := laid(t)
	bad := as(l["f"], "y")
	bad.Ref.First = 3
	top := g.dir(t, "", as(l["d"], "x"), bad)
	m := g.mark(t)
	m.AddRoot(top.Key, top.Ref)
	wantStep(t, g.disk, m, false, api.OK, 1)
	wantStep(t, g.disk, m, false, api.OK, 1)
	m.AddRef(l["c"].Ref)
	m.AddRoot(l["a"].Key, l["a"].Ref)
	m.AddNumbers(7)
	wantFlaw(t, g.disk, m, 3, 0)
	wantHeld(t, m, 7, 17, 21)
}

// 20.2, 20.3, 20.4: behind ErrBroken nothing is read whatever is added; only numbers come to what is held.
func TestBehindBroken(t *testing.T) {
	g, l := laid(t)
	g.turn(t, 11, 7)
	m := g.mark(t)
	m.AddRef(l["f"].Ref)
	wantStep(t, g.disk, m, false, api.OK, 1)
	wantFlaw(t, g.disk, m, 11, 1)
	g.turn(t, 11, 7)
	for range 3 {
		m.AddRef(l["f"].Ref)
		m.AddRef(l["c"].Ref)
		m.AddRoot(l["a"].Key, l["a"].Ref)
		m.AddRef(api.Ref{First: 2})
		wantStep(t, g.disk, m, true, api.ErrBroken, 0)
		wantBroken(t, m, 11)
		wantHeld(t, m, 10, 11)
	}
	m.AddNumbers(5, 11, 80)
	wantHeld(t, m, 5, 10, 11, 80)
	wantStep(t, g.disk, m, true, api.ErrBroken, 0)
	wantBroken(t, m, 11)
}

// 20.3: -1 is a First, too: what Step answers tells whether something is broken.
func TestBrokenBelowZero(t *testing.T) {
	d, _ := disk.New(40)
	m, _ := New(d, 10)
	m.AddRef(api.Ref{First: -1})
	wantFlaw(t, d, m, -1, 0)
}

// 20.4: numbers that were added are told, whatever they are, rising, each once; they are not read, nor does it matter to a chain that has them.
func TestNumbers(t *testing.T) {
	g, l := laid(t)
	m := g.mark(t)
	m.AddNumbers()
	m.AddNumbers(nil...)
	wantHeld(t, m)
	m.AddNumbers(14, -3, 70000, 14, 0, 9)
	m.AddNumbers(9, 10, -3)
	wantHeld(t, m, -3, 0, 9, 10, 14, 70000)
	wantStep(t, g.disk, m, true, api.OK, 0)
	m.AddRef(l["c"].Ref)
	wantStep(t, g.disk, m, false, api.OK, 1)
	wantHeld(t, m, -3, 0, 9, 10, 13, 14, 70000)
	wantStep(t, g.disk, m, true, api.OK, 1)
	m.AddNumbers(13, 14)
	wantHeld(t, m, -3, 0, 9, 10, 13, 14, 70000)
	m.AddNumbers(far...)
	want := slices.Sorted(slices.Values(append([]int{-3, 0, 9, 10, 13, 14, 70000}, far...)))
	wantHeld(t, m, want...)
	m.AddRoot(l["a"].Key, l["a"].Ref)
	for range 4 {
		m.Step()
	}
	want = slices.Sorted(slices.Values(append(want, 11, 12, 15)))
	wantHeld(t, m, want...)
}

// as: the same entry by another name.
func as(e api.Entry, name string) api.Entry {
	e.Name = name
	return e
}

// off: a key with one bit turned over.
func off(k api.Key, at int) api.Key {
	k[at] ^= 1
	return k
}
