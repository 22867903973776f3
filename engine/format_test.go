package engine

import (
	"bytes"
	"math/rand"
	"testing"

	"kiln/api"
	"kiln/chain"
	"kiln/disk"
	"kiln/journal"
	"kiln/node"
	"kiln/root"
	"kiln/space"
)

// 21.1: what Format refuses, in this order, and then does no act.
func TestFormatRefused(t *testing.T) {
	if err := Format(nil, 0); err != api.ErrArg {
		t.Errorf("21.1: no disk: %d", err)
	}
	small := madeDisk(t, 2)
	for _, n := range append(far, 7, 1025) {
		if err := Format(small, n); err != api.ErrJournal {
			t.Errorf("21.1: Format(%d): %d", n, err)
		}
	}
	for _, n := range []int{8, 9, 1024} {
		if err := Format(madeDisk(t, n+3), n); err != api.ErrSmall {
			t.Errorf("21.1: Format of %d sectors: %d", n+3, err)
		}
		d := madeDisk(t, n+4)
		if err := Format(d, n); err != api.OK {
			t.Errorf("21.1: Format of %d sectors: %d", n+4, err)
		}
		if e, err := Open(d); err != api.OK || e.Stat().Free != 0 || e.Stat().Held != 2 {
			t.Errorf("21.1: Open of %d sectors: %d", n+4, err)
		}
	}
	if err := Format(small, 8); err != api.ErrSmall {
		t.Errorf("21.1: %d", err)
	}
	if small.Acts() != (api.Acts{}) {
		t.Errorf("21.1: refused, but %v", small.Acts())
	}
}

// 21.1: what lies on a disk behind Format, whatever lay there.
func TestFormatBytes(t *testing.T) {
	r := rand.New(rand.NewSource(211))
	image := make([][]byte, 30)
	for n := range image {
		image[n] = make([]byte, 512)
		r.Read(image[n])
	}
	d, _ := disk.Load(image)
	if err := Format(d, 11); err != api.OK {
		t.Fatal(err)
	}
	if a := d.Acts(); a != (api.Acts{Writes: 1 + 11 + 2 + 1, Flushes: 2}) {
		t.Errorf("21.1: %v", a)
	}
	d.Crash() // all of it lasts
	b, _ := d.Read(0)
	slot, err := root.Decode(b)
	key, _ := node.KeyOf(nil)
	want := api.Slot{Sectors: 30, Journal: 11, Key: key}
	want.Root, want.Memo = slot.Root, slot.Memo
	if err != api.OK || slot != want || slot.Root.First != 13 || slot.Memo.First != 14 {
		t.Errorf("21.1: the slot: %+v, %d", slot, err)
	}
	for n := 1; n <= 12; n++ {
		if b, _ := d.Read(n); !bytes.Equal(b, make([]byte, 512)) {
			t.Errorf("21.1: the sector %d is not zeros", n)
		}
	}
	if b, _, err := chain.Get(d, 13, slot.Root); err != api.OK || !bytes.Equal(b, []byte{1, 0}) {
		t.Errorf("21.1: the empty tree's node: %v, %d", b, err)
	}
	if b, _, err := chain.Get(d, 13, slot.Memo); err != api.OK || !bytes.Equal(b, []byte{2, 0}) {
		t.Errorf("21.1: the empty memo: %v, %d", b, err)
	}
	for n := 15; n < 30; n++ {
		if b, _ := d.Read(n); !bytes.Equal(b, image[n]) {
			t.Errorf("21.1: the sector %d is written", n)
		}
	}
}

// DOC: what was on the disk before counts no more behind Format; and each Write of it is where 21.1 says, all ahead of slot 0's.
func TestFormatAnew(t *testing.T) {
	g := newGround(t, 60, 8)
	for i := range 3 {
		g.publish(text("t", "o", string(rune('a'+i))))
	}
	old := sectors(g.disk)
	if err := Format(g.disk, 8); err != api.OK {
		t.Fatal(err)
	}
	g.open()
	if s := g.Stat(); s.Gen != 0 || s.Turn != 0 || s.Runs != 0 || s.Kept != 0 || s.Records != 0 {
		t.Errorf("21.1: %+v", s)
	}
	g.wantCurrent(nil)
	g.wantStat(2, 0, 48, 0)
	for n := 12; n < 60; n++ {
		if b, _ := g.disk.Read(n); !bytes.Equal(b, old[n]) {
			t.Errorf("21.1: the sector %d is written", n)
		}
	}
	g.publish(text("t", "o", "z"))
	g.wantCurrent([]api.File{file("o", "z")})
}

// 21.2: what Open refuses; its Flush comes also then.
func TestOpenRefused(t *testing.T) {
	if e, err := Open(nil); e != nil || err != api.ErrArg {
		t.Errorf("21.2: no disk: %d", err)
	}
	d := madeDisk(t, 20)
	d.Write(5, bytes.Repeat([]byte{5}, 512))
	if e, err := Open(d); e != nil || err != api.ErrRoot {
		t.Errorf("21.2: no slot: %d", err)
	}
	if a := d.Acts(); a.Flushes != 1 || a.Writes != 1 {
		t.Errorf("21.2: %v", a)
	}
	d.Crash()
	if b, _ := d.Read(5); b[0] != 5 {
		t.Error("21.2: the refused Open has not flushed")
	}
}

// 21.2: Open flushes once, ahead of all that it reads, and writes nothing.
func TestOpenActs(t *testing.T) {
	g := newGround(t, 60, 8)
	g.begin(text("t", "o", "x"))
	g.step(8) // the root is written, and not flushed
	before := g.disk.Acts()
	g.open()
	after := g.disk.Acts()
	if after.Writes != before.Writes || after.Flushes != before.Flushes+1 || after.Reads == before.Reads {
		t.Errorf("21.2: %v, %v before", after, before)
	}
	g.disk.Crash()
	g.open()
	if g.Stat().Gen != 1 || g.Stat().Turn != 1 {
		t.Errorf("21.2: what the Open believed does not last: %+v", g.Stat())
	}
}

// handDisk: a disk with a slot over a tree and a memo that are laid down by hand.
type handDisk struct {
	t     *testing.T
	disk  *disk.Disk
	space *space.Space
	slot  api.Slot
}

// newHandDisk: one of so many sectors with a journal of 8, the empty tree and the empty memo.
func newHandDisk(t *testing.T, sectors int) *handDisk {
	t.Helper()
	h := &handDisk{t: t, disk: madeDisk(t, sectors)}
	h.space, _ = space.New(10, sectors)
	h.slot = api.Slot{Sectors: sectors, Journal: 8}
	h.root()
	h.memo([]byte{2, 0})
	return h
}

// lay: a chain.
func (h *handDisk) lay(b []byte) api.Ref {
	h.t.Helper()
	return laid(h.t, h.disk, h.space, b)
}

// file: an entry.
func (h *handDisk) file(name, data string) api.Entry {
	h.t.Helper()
	ref := h.lay([]byte(data))
	return api.Entry{Name: name, Key: ref.Hash, Ref: ref}
}

// dir: an entry.
func (h *handDisk) dir(name string, l ...api.Entry) api.Entry {
	h.t.Helper()
	b, err := node.Encode(l)
	if err != api.OK {
		h.t.Fatal(err)
	}
	key, _ := node.KeyOf(l)
	return api.Entry{Name: name, Dir: true, Key: key, Ref: h.lay(b)}
}

// root: the slot's tree has these entries.
func (h *handDisk) root(l ...api.Entry) {
	h.t.Helper()
	e := h.dir("", l...)
	h.slot.Key, h.slot.Root = e.Key, e.Ref
}

// memo: the slot's memo has these bytes.
func (h *handDisk) memo(b []byte) {
	h.t.Helper()
	h.slot.Memo = h.lay(b)
}

// record: written into its place.
func (h *handDisk) record(num int, print api.Key, refs ...api.Ref) {
	h.t.Helper()
	b, err := journal.Encode(api.Record{Num: num, Print: print, Refs: refs})
	if err != api.OK {
		h.t.Fatal(err)
	}
	h.disk.Write(2+num%8, b)
}

// open: the slot is written, and an engine opened.
func (h *handDisk) open() *Engine {
	h.t.Helper()
	w, err := root.NewWriter(h.disk, h.slot)
	if err != api.OK {
		h.t.Fatal(err)
	}
	w.Step()
	w.Step()
	e, err := Open(h.disk)
	if e == nil || err != api.OK {
		h.t.Fatalf("21.2: Open: %d", err)
	}
	return e
}

// wantFlaw: that the engine is hurt, and Check tells that sector; none: that it is not.
func (h *handDisk) wantFlaw(sector int) {
	h.t.Helper()
	e := h.open()
	if got := e.Check(); got != sector || e.Stat().Hurt != (sector >= 0) {
		h.t.Errorf("21.2, 21.12: Check: %d, hurt: %t, want %d", got, e.Stat().Hurt, sector)
	}
}

// 21.2: a directory that is none, has another key, no entry, or a name that makes no path.
func TestHurtTrees(t *testing.T) {
	h := newHandDisk(t, 80)
	h.root(h.file("a", "x"), h.dir("b", h.file("c", "y")))
	h.wantFlaw(none)

	h = newHandDisk(t, 80)
	bare := h.dir("a")
	h.root(bare, h.file("b", "x"))
	h.wantFlaw(bare.Ref.First)

	h = newHandDisk(t, 80)
	bare = h.dir("b")
	h.root(h.file("a", "x"), bare) // with nothing behind it
	h.wantFlaw(bare.Ref.First)

	h = newHandDisk(t, 80)
	x := h.dir("a", h.file("b", "x"))
	x.Key[7]++
	h.root(x)
	h.wantFlaw(x.Ref.First)

	h = newHandDisk(t, 80)
	x = h.dir("a", h.file("b", "x"))
	h.root(x)
	h.slot.Key[0]++
	h.wantFlaw(h.slot.Root.First)

	h = newHandDisk(t, 80)
	h.slot.Key[0]++ // of the empty tree
	h.wantFlaw(h.slot.Root.First)

	h = newHandDisk(t, 80)
	x = h.file("a", "no node")
	x.Dir = true
	h.root(h.file("A", "x"), x, h.file("b", "y"))
	h.wantFlaw(x.Ref.First)

	h = newHandDisk(t, 80)
	h.slot.Root = h.lay([]byte("no node"))
	h.wantFlaw(h.slot.Root.First)
}

// 21.2: names that make no path, of 17 names or of 256 bytes.
func TestHurtPaths(t *testing.T) {
	for _, size := range []int{1, 15} { // 16 names of 15 bytes are 255 bytes with what stands between
		name := string(bytes.Repeat([]byte{'n'}, size))
		for depth := 15; depth <= 16; depth++ {
			h := newHandDisk(t, 80)
			e := h.file(name, "x")
			for range depth {
				inner := e
				e = h.dir(name, inner)
			}
			h.root(e)
			if depth == 15 {
				h.wantFlaw(none)
				continue
			}
			// The directory of sixteen names is the one whose name makes none.
			h = newHandDisk(t, 80)
			e = h.file(name, "x")
			e = h.dir(name, e)
			first := e.Ref.First
			for range depth - 1 {
				e = h.dir(name, e)
			}
			h.root(e)
			h.wantFlaw(first)
		}
	}
	h := newHandDisk(t, 80)
	long := string(bytes.Repeat([]byte{'m'}, 64))
	e := h.file(long, "x")
	for range 3 {
		e = h.dir(long, e)
	}
	h.root(e) // 259 bytes
	in := h.open()
	if !in.Stat().Hurt {
		t.Error("21.2: a path of 259 bytes")
	}
}

// 21.2, 21.12: of what is broken Check tells the least, and of a chain the first one in its order.
func TestHurtLeast(t *testing.T) {
	h := newHandDisk(t, 80)
	a := h.file("a", string(bytes.Repeat([]byte{'a'}, 1500))) // four sectors
	b := h.dir("b", h.file("c", "y"))
	c := h.file("c", string(bytes.Repeat([]byte{'c'}, 1500)))
	h.root(a, b, c)
	h.memo([]byte{2, 0})
	turn := func(n int) { h.disk.Turn(n, 77) }
	turn(c.Ref.First + 3)
	h.wantFlaw(c.Ref.First + 3)
	turn(c.Ref.First + 1)
	h.wantFlaw(c.Ref.First + 1)
	turn(h.slot.Memo.First)
	h.wantFlaw(c.Ref.First + 1)
	turn(b.Ref.First)
	h.wantFlaw(b.Ref.First)
	turn(a.Ref.First + 2)
	h.wantFlaw(a.Ref.First + 2)
	for _, n := range []int{c.Ref.First + 1, c.Ref.First + 3, b.Ref.First, a.Ref.First + 2} {
		turn(n)
	}
	h.wantFlaw(h.slot.Memo.First)
	turn(h.slot.Memo.First)
	h.wantFlaw(none)
	turn(h.slot.Root.First) // all below it is not known
	turn(a.Ref.First)
	h.wantFlaw(h.slot.Root.First)
}

// 21.2: two chains of the current generation that share a sector: not both are whole.
func TestHurtShared(t *testing.T) {
	h := newHandDisk(t, 80)
	h.root(h.file("a", "x"))
	h.slot.Memo = h.slot.Root
	h.wantFlaw(h.slot.Root.First) // no memo's bytes
	h.slot.Memo.Len++
	h.wantFlaw(h.slot.Root.First)
}

// 21.2: of a hurt engine: no results, no sectors; Begin and Scavenge are refused; pins and readings go on.
func TestHurtEngine(t *testing.T) {
	g := newGround(t, 60, 8)
	g.publish(text("t", "o", "x") + text("u", "d/p", "y"))
	g.begin(text("v", "q", "z"))
	g.step(4)
	g.disk.Crash()
	g.open()
	if g.Stat().Kept != 1 || g.Stat().Records != 1 {
		t.Fatalf("21.2: %+v", g.Stat())
	}
	pin := g.pin()
	g.disk.Turn(g.Engine.current.note.First, 4095)
	key, turn := g.Stat().Key, g.Stat().Turn
	e, err := Open(g.disk)
	if err != api.OK {
		t.Fatal(err)
	}
	want := api.Stat{Gen: 1, Turn: turn, Records: 1, Hurt: true, Key: key}
	if got := e.Stat(); got != want {
		t.Errorf("21.12: %+v, want %+v", got, want)
	}
	if _, err := e.Begin("", []api.File{file("a", ""), file("a", "")}); err != api.ErrHurt {
		t.Errorf("21.3: %d", err)
	}
	if _, err := e.Step(0); err != api.ErrOver {
		t.Errorf("21.4: %d", err)
	}
	if err := e.Cancel(); err != api.ErrOver {
		t.Errorf("21.5: %d", err)
	}
	if err := e.Scavenge(); err != api.ErrHurt {
		t.Errorf("21.10: %d", err)
	}
	if _, err := e.Sweep(0); err != api.ErrOver {
		t.Errorf("21.10: %d", err)
	}
	g.Engine = e
	if pin = g.pin(); pin != 1 {
		t.Errorf("21.7: %d", pin)
	}
	g.wantTree(1, []api.File{file("d/p", "y"), file("o", "x")})
	if err := e.Unpin(1); err != api.OK || e.Stat().Pins != 0 {
		t.Errorf("21.7: %d", err)
	}
}

// 21.2: which results are kept: whole ones, of one print the newest one that is, no record behind a gap.
func TestKeptByOpen(t *testing.T) {
	h := newHandDisk(t, 120)
	long := func(letter byte) api.Ref { return h.lay(bytes.Repeat([]byte{letter}, 900)) }
	shared, a, b, c, d := h.lay([]byte("s")), long('a'), long('b'), long('c'), long('d')
	p, q := api.Key{1}, api.Key{2}
	h.slot.Start = 5
	h.record(4, api.Key{9}, long('z')) // ahead of Start
	h.record(5, p, a, shared)
	h.record(6, q, b, shared, b)
	h.record(7, p, c)
	h.record(8, q, d, shared)
	h.record(10, api.Key{3}, long('y')) // behind a gap
	h.disk.Turn(d.First+1, 100)
	e := h.open()
	if s := e.Stat(); s.Kept != 2 || s.Records != 4 || s.Held != 2+2+1+2 || s.Spent != 0 || s.Free != 110-7 {
		t.Errorf("21.2: %+v", s)
	}
	if r, ok := e.kept.find(p); !ok || r.Num != 7 || len(r.Refs) != 1 || r.Refs[0] != c {
		t.Errorf("21.2: kept of p: %+v", r)
	}
	if r, ok := e.kept.find(q); !ok || r.Num != 6 || len(r.Refs) != 3 {
		t.Errorf("21.2: kept of q: %+v", r)
	}
	for ref, uses := range map[api.Ref]int{a: 0, d: 0, b: 2, c: 1, shared: 1} {
		if e.store.Uses(ref) != uses {
			t.Errorf("21.2: a chain at %d has %d uses, want %d", ref.First, e.store.Uses(ref), uses)
		}
	}
	h.disk.Turn(c.First, 3)
	e = h.open()
	if r, ok := e.kept.find(p); !ok || r.Num != 5 || e.Stat().Kept != 2 {
		t.Errorf("21.2: kept of p, the newer one broken: %+v", r)
	}
}

// 21.2: a record whose chains lie in one another, or in the current tree's, is no kept result.
func TestKeptOverlap(t *testing.T) {
	h := newHandDisk(t, 80)
	file := h.file("a", string(bytes.Repeat([]byte{'a'}, 900)))
	h.root(file)
	lone := h.lay([]byte("x"))
	h.record(0, api.Key{1}, lone, file.Ref)
	half := file.Ref
	half.Len--
	h.record(1, api.Key{2}, lone, half)
	outside := lone
	outside.First = 9
	h.record(2, api.Key{3}, lone, outside)
	e := h.open()
	if s := e.Stat(); s.Kept != 1 || s.Records != 3 || s.Spent != 0 || s.Held != 1+1+2+1 {
		t.Errorf("21.2: %+v", s)
	}
	if e.store.Uses(lone) != 1 || e.store.Uses(file.Ref) != 2 {
		t.Error("21.2: uses of what no result has")
	}
}
