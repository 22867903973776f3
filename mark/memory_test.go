package mark

import (
	"bytes"
	"math/rand"
	"slices"
	"sync"
	"testing"

	"kiln/api"
	"kiln/disk"
)

// A mark goes on by single acts.
var _ api.Stepper = (*Mark)(nil)

// 20.5: a list of numbers that is handed in is not changed, nor the room behind it, and not kept.
func TestHandedIn(t *testing.T) {
	g := newGround(t, 40, 10)
	m := g.mark(t)
	room := []int{30, 5, 30, 8, 77, 66}
	m.AddNumbers(room[:4]...)
	if !slices.Equal(room, []int{30, 5, 30, 8, 77, 66}) {
		t.Errorf("20.5: changed: %v", room)
	}
	clear(room)
	wantHeld(t, m, 5, 8, 30)
}

// 20.5: what Held tells is memory of its own, spare room too, and stays as it was told.
func TestHeldHandedOut(t *testing.T) {
	g, l := laid(t)
	m := g.mark(t)
	m.AddNumbers(40, 30, 50)
	m.AddRoot(l[""].Key, l[""].Ref)
	want := []int{30, 40, 50}
	var told [][]int
	for _, n := range []int{19, 20, 15, 10, 11, 12, 16, 13, 14, 17, 18} {
		m.Step()
		want = slices.Sorted(slices.Values(append(slices.Clone(want), n)))
		a, b := m.Held(), m.Held()
		_ = append(a, -1)
		for i := range a[:cap(a)] {
			a[:cap(a)][i] = -5
		}
		if !slices.Equal(b, want) {
			t.Fatalf("20.5: two answers of Held share memory: %v, want %v", b, want)
		}
		wantHeld(t, m, want...)
		told = append(told, b)
	}
	for i, b := range told {
		if len(b) != 4+i {
			t.Errorf("20.5: an answer of Held has changed: %v", b)
		}
	}
}

// 20.5: no call but Step does an act, and Step no Write and no Flush; what is on the disk stays as it is.
func TestActs(t *testing.T) {
	g, l := laid(t)
	g.disk.Flush()
	image, acts := g.disk.Image(), g.disk.Acts()
	m := g.mark(t)
	m.AddRoot(l[""].Key, l[""].Ref)
	m.AddRef(l["f"].Ref)
	m.AddNumbers(1, 2, 3)
	m.Held()
	m.Broken()
	if g.disk.Acts() != acts {
		t.Errorf("20.5: acts without a Step: %v, %v before", g.disk.Acts(), acts)
	}
	for range 30 {
		m.Step()
		m.Held()
		m.Broken()
		m.AddRef(l["c"].Ref)
		m.AddNumbers(1)
	}
	acts.Reads += 11
	if g.disk.Acts() != acts || !slices.EqualFunc(g.disk.Image(), image, bytes.Equal) {
		t.Errorf("20.5: acts: %v, want %v", g.disk.Acts(), acts)
	}
}

// 20.5: two marks over one disk have nothing in common but the disk.
func TestTwo(t *testing.T) {
	g, l := laid(t)
	g.turn(t, 14, 5)
	a, b := g.mark(t), g.mark(t)
	a.AddRef(l["f"].Ref)
	b.AddRoot(l["a"].Key, l["a"].Ref)
	b.AddRef(l["c"].Ref)
	wantStep(t, g.disk, b, false, api.OK, 1)
	wantStep(t, g.disk, a, false, api.OK, 1)
	wantStep(t, g.disk, b, false, api.OK, 1)
	wantStep(t, g.disk, b, false, api.OK, 1)
	wantStep(t, g.disk, a, false, api.OK, 1)
	wantStep(t, g.disk, b, false, api.OK, 1)
	wantStep(t, g.disk, b, false, api.OK, 1)
	wantFlaw(t, g.disk, b, 14, 1)
	wantBroken(t, a, -1)
	wantHeld(t, a, 10, 11)
	a.AddNumbers(3)
	wantReads(t, g.disk, a, 12)
	wantHeld(t, b, 10, 11, 12, 13, 14, 15)
}

// 20.5: nothing is kept in common: marks over disks of their own, side by side.
func TestSideBySide(t *testing.T) {
	var all sync.WaitGroup
	for i := range 8 {
		all.Go(func() {
			for seed := range int64(40) {
				newWorld(t, 400000+1000*int64(i)+seed, true).live(map[string]int{})
			}
		})
	}
	all.Wait()
}

// 20.5: what only asks may be asked from many sides at once, in the middle of a chain too.
func TestAskedSideBySide(t *testing.T) {
	g, l := laid(t)
	m := g.mark(t)
	m.AddNumbers(3)
	m.AddRef(l["f"].Ref)
	m.Step()
	m.Step()
	var all sync.WaitGroup
	for range 8 {
		all.Go(func() {
			for range 50 {
				if got := m.Held(); !slices.Equal(got, []int{3, 10, 11}) || m.Broken() != -1 {
					t.Errorf("20.4: Held: %v", got)
				}
			}
		})
	}
	all.Wait()
}

// Behind something broken nothing is gone through any more, and so nothing is kept for that.
func TestNothingKept(t *testing.T) {
	g, l := laid(t)
	g.turn(t, 10, 9)
	m := g.mark(t)
	m.AddRoot(l[""].Key, l[""].Ref)
	m.AddRef(l["c"].Ref)
	for range 3 {
		wantStep(t, g.disk, m, false, api.OK, 1)
	}
	wantFlaw(t, g.disk, m, 10, 1)
	m.AddRef(l["d"].Ref)
	if len(m.todo) > 0 || len(m.added) > 0 || len(m.known) > 0 || m.reader != nil || m.behind != nil {
		t.Errorf("kept: %d and %d things to do, %d chains", len(m.todo), len(m.added), len(m.known))
	}
}

// 20.5: every call ends, and none panics, with whatever numbers, over whatever lies on a disk.
func TestEnds(t *testing.T) {
	r := rand.New(rand.NewSource(205))
	all := append([]int{0, 1, 9, 10, 11, 12, 39, 40, 480, 481, api.MaxChain, api.MaxChain + 1, 65535, 65536}, far...)
	pick := func() int { return all[r.Intn(len(all))] }
	for range 2000 {
		image := make([][]byte, 40)
		for n := range image {
			image[n] = make([]byte, 512)
			r.Read(image[n])
		}
		d, _ := disk.Load(image)
		m, err := New(d, pick())
		if err != api.OK {
			continue
		}
		for range 20 {
			ref := api.Ref{Hash: api.Key{byte(r.Intn(2))}, First: pick(), Len: pick()}
			m.AddRef(ref)
			m.AddRoot(ref.Hash, ref)
			m.AddNumbers(pick(), pick())
			m.Step()
			m.Held()
			m.Broken()
		}
		if ended, err := m.Step(); !ended || err != api.ErrBroken {
			t.Fatalf("20.2: %t, %d", ended, err)
		}
	}
}
