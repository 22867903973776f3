package mark

import (
	"bytes"
	"crypto/sha256"
	"fmt"
	"maps"
	"math"
	"math/rand"
	"slices"
	"testing"

	"kiln/api"
	"kiln/chain"
	"kiln/disk"
	"kiln/node"
	"kiln/space"
)

// far: numbers outside everything, and such as come back inside if a width or a sign is lost.
var far = []int{math.MinInt, math.MinInt + 1, -1 << 32, -1<<32 + 12, -65536, -2, -1, 1 << 32, 1<<32 + 12, 1<<62 + 12, math.MaxInt - 1, math.MaxInt}

// ground: a disk, the free sectors of its heap, and which sectors each chain that was put has.
type ground struct {
	disk    *disk.Disk
	heap    int
	space   *space.Space
	numbers map[api.Ref][]int
}

func newGround(t *testing.T, sectors, heap int) *ground {
	t.Helper()
	d, err := disk.New(sectors)
	if err != api.OK {
		t.Fatal(err)
	}
	s, err := space.New(heap, sectors)
	if err != api.OK {
		t.Fatal(err)
	}
	return &ground{disk: d, heap: heap, space: s, numbers: map[api.Ref][]int{}}
}

// put writes a chain: where it lies.
func (g *ground) put(t *testing.T, b []byte) api.Ref {
	t.Helper()
	ref, numbers, err := chain.Put(g.disk, g.space, b)
	if err != api.OK {
		t.Fatalf("a chain of %d bytes: %d", len(b), err)
	}
	g.numbers[ref] = numbers
	return ref
}

// file writes a file of so many bytes, all of them one letter: its entry.
func (g *ground) file(t *testing.T, name string, size int, letter byte) api.Entry {
	t.Helper()
	return named(name, g.put(t, bytes.Repeat([]byte{letter}, size)))
}

// dir writes a directory of these entries: its entry.
func (g *ground) dir(t *testing.T, name string, l ...api.Entry) api.Entry {
	t.Helper()
	b, key := noded(t, l...)
	return api.Entry{Name: name, Dir: true, Key: key, Ref: g.put(t, b)}
}

// mark: a mark over the disk.
func (g *ground) mark(t *testing.T) *Mark {
	t.Helper()
	m, err := New(g.disk, g.heap)
	if m == nil || err != api.OK {
		t.Fatalf("20.1: New: %v, %d", m, err)
	}
	return m
}

// turn turns a bit of a sector over.
func (g *ground) turn(t *testing.T, sector, bit int) {
	t.Helper()
	if err := g.disk.Turn(sector, bit); err != api.OK {
		t.Fatal(err)
	}
}

// of: the sectors of these chains, rising.
func (g *ground) of(refs ...api.Ref) []int {
	var l []int
	for _, ref := range refs {
		l = append(l, g.numbers[ref]...)
	}
	slices.Sort(l)
	return slices.Compact(l)
}

// named: the entry of a file of that ref.
func named(name string, ref api.Ref) api.Entry {
	return api.Entry{Name: name, Key: ref.Hash, Ref: ref}
}

// noded: the node of these entries, and its directory's key.
func noded(t *testing.T, l ...api.Entry) ([]byte, api.Key) {
	t.Helper()
	b, err := node.Encode(l)
	if err != api.OK {
		t.Fatalf("Encode(%v): %d", l, err)
	}
	key, _ := node.KeyOf(l)
	return b, key
}

// copied: a disk that reads as this one does. (These Reads are acts of it.)
func copied(d *disk.Disk) *disk.Disk {
	image := make([][]byte, d.Sectors())
	for n := range image {
		image[n], _ = d.Read(n)
	}
	c, _ := disk.Load(image)
	return c
}

// The chapter, read plainly: all that is to be done from the beginning on, told anew for each Step.

// added: what AddRoot, or AddRef, was given.
type added struct {
	root bool
	key  api.Key
	ref  api.Ref
}

// event: a Read of a sector, or what needs none; where it shows something broken, its sector.
type event struct {
	reads  bool
	sector int
	broken bool
	flaw   int
}

// plain goes through what was added.
type plain struct {
	disk   *disk.Disk
	heap   int
	events []event
	known  map[api.Ref][]byte
	gone   map[api.Ref]api.Key
	over   bool // something broken was met
}

// events: all that is to be done on such a disk, up to something broken.
func events(d *disk.Disk, heap int, l []added) []event {
	p := &plain{disk: d, heap: heap, known: map[api.Ref][]byte{}, gone: map[api.Ref]api.Key{}}
	for _, a := range l {
		p.through(a)
	}
	return p.events
}

func (p *plain) through(a added) {
	before := len(p.events)
	b, ok := p.chain(a.ref)
	if !a.root || !ok {
		return
	}
	l, err := node.Decode(b)
	if key, _ := node.KeyOf(l); err != api.OK || key != a.key {
		if len(p.events) == before { // else the chain's last Read shows it
			p.events = append(p.events, event{})
		}
		last := &p.events[len(p.events)-1]
		last.broken, last.flaw, p.over = true, a.ref.First, true
		return
	}
	if key, ok := p.gone[a.ref]; ok && key == a.key {
		return
	}
	p.gone[a.ref] = a.key
	for _, e := range l {
		p.through(added{root: e.Dir, key: e.Key, ref: e.Ref})
	}
}

// chain: the bytes of a chain, if all is whole up to them.
func (p *plain) chain(ref api.Ref) ([]byte, bool) {
	if p.over {
		return nil, false
	}
	if b, ok := p.known[ref]; ok {
		return b, true
	}
	r, err := chain.NewReader(p.disk, p.heap, ref)
	if err != api.OK {
		p.over = true
		p.events = append(p.events, event{broken: true, flaw: ref.First})
		return nil, false
	}
	for ended := false; !ended; {
		ended, err = r.Step()
	}
	for _, n := range r.Numbers() {
		p.events = append(p.events, event{reads: true, sector: n})
	}
	if err != api.OK {
		last := &p.events[len(p.events)-1]
		last.broken, last.flaw, p.over = true, r.Broken(), true
		return nil, false
	}
	p.known[ref] = r.Bytes()
	return r.Bytes(), true
}

// twin: what the chapter says of a mark, over a disk of its own that reads alike.
type twin struct {
	disk   *disk.Disk
	heap   int
	added  []added
	held   map[int]int
	events []event
	at     int // how many of these were done
	told   bool
	broken int
}

func newTwin(d *disk.Disk, heap int) *twin {
	return &twin{disk: copied(d), heap: heap, held: map[int]int{}, broken: -1}
}

func (w *twin) add(a added) {
	w.added = append(w.added, a)
	w.events = events(w.disk, w.heap, w.added)
}

// step: what Step answers, and how many Reads it does.
func (w *twin) step() (bool, api.Errno, int) {
	if w.told {
		return true, api.ErrBroken, 0
	}
	if w.at == len(w.events) {
		return true, api.OK, 0
	}
	e := w.events[w.at]
	w.at++
	reads := 0
	if e.reads {
		w.held[e.sector]++
		reads = 1
	}
	if e.broken {
		w.told, w.broken = true, e.flaw
		return true, api.ErrBroken, reads
	}
	return w.at == len(w.events), api.OK, reads
}

// both: a mark beside its twin.
type both struct {
	t    *testing.T
	disk *disk.Disk
	mark *Mark
	twin *twin
}

func (g *ground) both(t *testing.T) *both {
	t.Helper()
	return &both{t: t, disk: g.disk, mark: g.mark(t), twin: newTwin(g.disk, g.heap)}
}

func (b *both) root(key api.Key, ref api.Ref) {
	b.mark.AddRoot(key, ref)
	b.twin.add(added{root: true, key: key, ref: ref})
}

func (b *both) ref(ref api.Ref) {
	b.mark.AddRef(ref)
	b.twin.add(added{ref: ref})
}

func (b *both) numbers(l ...int) {
	b.mark.AddNumbers(l...)
	for _, n := range l {
		b.twin.held[n]++
	}
}

// step: one Step of both: what it answered.
func (b *both) step() (bool, api.Errno) {
	b.t.Helper()
	acts := b.disk.Acts()
	ended, err := b.mark.Step()
	wantEnded, want, reads := b.twin.step()
	acts.Reads += reads
	if ended != wantEnded || err != want || b.disk.Acts() != acts {
		b.t.Fatalf("20.2: Step: %t, %d, %v, want %t, %d, %v", ended, err, b.disk.Acts(), wantEnded, want, acts)
	}
	b.look()
	return ended, err
}

// finish: all Steps of both.
func (b *both) finish() api.Errno {
	b.t.Helper()
	for {
		if ended, err := b.step(); ended {
			return err
		}
	}
}

// look: what is told between any two calls, without an act.
func (b *both) look() {
	b.t.Helper()
	acts := b.disk.Acts()
	if got := b.mark.Broken(); got != b.twin.broken {
		b.t.Fatalf("20.3: Broken: %d, want %d", got, b.twin.broken)
	}
	want := slices.Sorted(maps.Keys(b.twin.held))
	if got := b.mark.Held(); !slices.Equal(got, want) {
		b.t.Fatalf("20.4: Held: %v, want %v", got, want)
	}
	if b.disk.Acts() != acts {
		b.t.Fatal("20.5: Broken and Held do acts")
	}
}

// world: chains by chance, of which later ones lead to earlier ones, and a mark that goes through some.
type world struct {
	*rand.Rand
	*ground
	t    *testing.T
	made []api.Entry // files and directories
	lies bool        // whether a directory may lead to what is not there
}

func newWorld(t *testing.T, seed int64, lies bool) *world {
	t.Helper()
	r := rand.New(rand.NewSource(seed))
	heap := 1 + r.Intn(12)
	w := &world{Rand: r, ground: newGround(t, heap+200, heap), t: t, lies: lies}
	for n := range w.space.Free() { // chains lie wherever there is room
		if r.Intn(4) == 0 {
			w.space.Claim(heap + n)
		}
	}
	for range 4 + r.Intn(16) {
		w.grow()
	}
	return w
}

// grow: one file or directory more.
func (w *world) grow() {
	switch w.Intn(5) {
	case 0, 1:
		size := []int{0, 1, 479, 480, 481, 960, 961, w.Intn(2500)}[w.Intn(8)]
		w.made = append(w.made, w.file(w.t, "", size, byte(w.Intn(3))))
	case 2:
		b, _ := noded(w.t, w.some()...)
		w.made = append(w.made, named("", w.put(w.t, b))) // a file may have a node's bytes
	default:
		w.made = append(w.made, w.dir(w.t, "", w.some()...))
	}
}

// some: entries of some of what was made, perhaps one of them twice.
func (w *world) some() []api.Entry {
	var l []api.Entry
	for i := range w.Intn(6) {
		if len(w.made) > 0 {
			e := w.one()
			e.Name = string(rune('a' + i))
			l = append(l, e)
		}
	}
	return l
}

// one: something that was made, which may be spoken of falsely.
func (w *world) one() api.Entry {
	e := w.made[w.Intn(len(w.made))]
	if !w.lies || w.Intn(12) > 0 {
		return e
	}
	switch w.Intn(6) {
	case 0:
		e.Ref.First = []int{0, w.heap - 1, w.heap, w.disk.Sectors() - 1, w.disk.Sectors()}[w.Intn(5)]
	case 1:
		e.Ref.Len = max(0, e.Ref.Len-1+2*w.Intn(2))
	case 2:
		e.Ref.Hash[8+w.Intn(24)]++
	case 3:
		if e.Dir {
			e.Key[w.Intn(32)]++
		}
	case 4:
		e.Dir = !e.Dir
	case 5:
		e.Ref.First = w.heap + w.Intn(w.disk.Sectors()-w.heap)
	}
	if !e.Dir {
		e.Key = e.Ref.Hash
	}
	return e
}

// live: what is added, stepped and asked by chance, beside the twin; how often what came.
func (w *world) live(met map[string]int) {
	if w.lies && w.Intn(3) == 0 {
		w.turn(w.t, w.heap+w.Intn(30), w.Intn(4096))
	}
	b := w.both(w.t)
	for range 20 + w.Intn(60) {
		switch w.Intn(9) {
		case 0:
			if e := w.one(); e.Dir {
				b.root(e.Key, e.Ref)
			} else {
				b.ref(e.Ref)
			}
		case 1:
			b.ref(w.one().Ref)
		case 2:
			b.numbers(w.Perm(300)[:w.Intn(3)]...)
		default:
			before := b.disk.Acts().Reads
			ended, err := b.step()
			met[fmt.Sprintf("%t, %d, %d Reads", ended, err, b.disk.Acts().Reads-before)]++
		}
		b.look()
	}
	met[b.finish().Error()]++
}

// 20.2, 20.3, 20.4: marks over worlds in which anything may be false, beside a plain reading of the chapter.
func TestWorlds(t *testing.T) {
	met := map[string]int{}
	for seed := range int64(3000) {
		newWorld(t, seed, true).live(met)
	}
	for _, want := range []string{"true, 0, 0 Reads", "true, 0, 1 Reads", "false, 0, 1 Reads", "true, 61, 0 Reads", "true, 61, 1 Reads", "error 0", "error 61"} {
		if met[want] < 100 {
			t.Errorf("%s came %d times", want, met[want])
		}
	}
}

// 20.2, 20.4: marks over worlds in which all is whole.
func TestWholeWorlds(t *testing.T) {
	met := map[string]int{}
	for seed := range int64(2000) {
		newWorld(t, -1-seed, false).live(met)
	}
	if met["error 61"] > 0 || met["true, 61, 0 Reads"] > 0 || met["true, 61, 1 Reads"] > 0 || met["error 0"] != 2000 {
		t.Errorf("20.2: %v", met)
	}
}

// hashed: the SHA-256 of bytes, by the library.
func hashed(b []byte) api.Key {
	return sha256.Sum256(b)
}
