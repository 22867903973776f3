package engine

import (
	"bytes"
	"fmt"
	"maps"
	"math"
	"slices"
	"strings"
	"testing"

	"kiln/api"
	"kiln/chain"
	"kiln/den"
	"kiln/disk"
	"kiln/journal"
	"kiln/node"
	"kiln/print"
	"kiln/root"
	"kiln/sha"
	"kiln/space"
)

// far: numbers outside everything.
var far = []int{math.MinInt, -1 << 32, -2, -1, 0, 1 << 32, math.MaxInt}

// lines: a manifest of these lines.
func lines(l ...string) string {
	return strings.Join(l, "\n") + "\n"
}

// text: a task that makes one file of a text.
func text(name, path, what string) string {
	return lines("task "+name+" 999", "out "+path+" = \""+what+"\"", "end")
}

// many: tasks of one small file each, from a number to another one.
func many(from, to int) string {
	var m string
	for i := from; i < to; i++ {
		name := "f" + string(rune('a'+i))
		m += text(name, name, strings.ToUpper(name))
	}
	return m
}

// big: a task that makes one file of so many times 480 bytes, less one: sectors that are unlike another letter's.
func big(name, path, letter string, pieces int) string {
	unit := strings.Repeat(letter, 48)
	term := "\"" + strings.Repeat(unit, 10)[1:] + "\""
	for range pieces - 1 {
		term += ",\"" + strings.Repeat(unit, 10) + "\""
	}
	return lines("task "+name+" 999", "out "+path+" = cat("+term+")", "end")
}

// file of a source, or of a tree.
func file(path, data string) api.File {
	return api.File{Path: path, Data: []byte(data)}
}

// madeDisk: a new disk of so many sectors.
func madeDisk(t *testing.T, sectors int) *disk.Disk {
	t.Helper()
	d, err := disk.New(sectors)
	if err != api.OK {
		t.Fatal(err)
	}
	return d
}

// ground: a disk and the engine over it.
type ground struct {
	*Engine
	t    *testing.T
	disk *disk.Disk
}

// newGround: a disk of so many sectors with a new engine over it.
func newGround(t *testing.T, sectors, journal int) *ground {
	t.Helper()
	d := madeDisk(t, sectors)
	if err := Format(d, journal); err != api.OK {
		t.Fatalf("21.1: Format: %d", err)
	}
	g := &ground{t: t, disk: d}
	g.open()
	return g
}

// open: an engine anew, which isn't hurt.
func (g *ground) open() {
	g.t.Helper()
	e, err := Open(g.disk)
	if err != api.OK || e.Stat().Hurt {
		g.t.Fatalf("21.2: Open: %d, hurt: %t", err, err == api.OK)
	}
	g.Engine = e
}

// begin: a build.
func (g *ground) begin(manifest string, src ...api.File) {
	g.t.Helper()
	if place, err := g.Begin(manifest, src); place != 0 || err != api.OK {
		g.t.Fatalf("21.3: Begin: %d, %d", place, err)
	}
}

// step: so many acts of the build.
func (g *ground) step(n int) api.Progress {
	g.t.Helper()
	before := g.disk.Acts()
	p, err := g.Step(n)
	after := g.disk.Acts()
	if err != api.OK {
		g.t.Fatalf("21.4: Step: %d", err)
	}
	if done := after.Writes + after.Flushes - before.Writes - before.Flushes; p.Acts != done || done > n {
		g.t.Fatalf("21.4: Step(%d) did %d, tells %d", n, done, p.Acts)
	}
	if !p.Ended && (p.Gen != 0 || p.Fault != (api.Fault{})) {
		g.t.Fatalf("21.4: told ahead of the end: %+v", p)
	}
	if !p.Ended && !p.Waits && p.Acts < n {
		g.t.Fatalf("21.4: Step(%d) stops ahead of that: %+v", n, p)
	}
	return p
}

// sweep: so many acts of the scavenging.
func (g *ground) sweep(n int) api.Progress {
	g.t.Helper()
	before := g.disk.Acts()
	p, err := g.Sweep(n)
	after := g.disk.Acts()
	if err != api.OK {
		g.t.Fatalf("21.10: Sweep: %d", err)
	}
	if done := allActs(after) - allActs(before); p.Acts != done || done > n {
		g.t.Fatalf("21.10: Sweep(%d) did %d, tells %d", n, done, p.Acts)
	}
	if !p.Ended && (p.Gen != 0 || p.Fault != (api.Fault{})) {
		g.t.Fatalf("21.10: told ahead of the end: %+v", p)
	}
	if !p.Ended && !p.Waits && p.Acts < n {
		g.t.Fatalf("21.10: Sweep(%d) stops ahead of that: %+v", n, p)
	}
	return p
}

// want: that a progress is this one.
func (g *ground) want(p, want api.Progress) {
	g.t.Helper()
	if p != want {
		g.t.Fatalf("%+v, want %+v", p, want)
	}
}

// going: a progress of so many acts.
func going(acts int) api.Progress {
	return api.Progress{Acts: acts}
}

// waits: a progress of so many acts that waits.
func waits(acts int) api.Progress {
	return api.Progress{Acts: acts, Waits: true}
}

// done: a progress of so many acts at the end.
func done(acts, gen int) api.Progress {
	return api.Progress{Acts: acts, Ended: true, Gen: gen}
}

// failed: a progress of so many acts that ends with an error alone.
func failed(acts int, err api.Errno) api.Progress {
	return api.Progress{Acts: acts, Ended: true, Fault: api.Fault{Err: err}}
}

// build: a build, whole.
func (g *ground) build(manifest string, src ...api.File) api.Progress {
	g.t.Helper()
	g.begin(manifest, src...)
	return g.step(math.MaxInt)
}

// leave: a build that is cancelled behind so many acts.
func (g *ground) leave(acts int, manifest string, src ...api.File) {
	g.t.Helper()
	g.begin(manifest, src...)
	g.step(acts)
	g.cancel()
	g.want(g.step(1), failed(0, api.ErrCancelled))
}

// cancel: the build is marked.
func (g *ground) cancel() {
	g.t.Helper()
	if err := g.Cancel(); err != api.OK {
		g.t.Fatalf("21.5: Cancel: %d", err)
	}
}

// publish: a build that ends with the next generation; how many acts it did.
func (g *ground) publish(manifest string, src ...api.File) int {
	g.t.Helper()
	next := g.Stat().Gen + 1
	p := g.build(manifest, src...)
	if p.Gen != next || p.Fault != (api.Fault{}) || !p.Ended {
		g.t.Fatalf("21.4: %+v, want the generation %d", p, next)
	}
	return p.Acts
}

// scavenge: a scavenging, whole; how many acts it did.
func (g *ground) scavenge() int {
	g.t.Helper()
	if err := g.Scavenge(); err != api.OK {
		g.t.Fatalf("21.10: Scavenge: %d", err)
	}
	p := g.sweep(math.MaxInt)
	if !p.Ended || p.Fault != (api.Fault{}) {
		g.t.Fatalf("21.10: %+v", p)
	}
	return p.Acts
}

// pin: the current generation's pin.
func (g *ground) pin() int {
	g.t.Helper()
	pin, gen, err := g.Pin()
	if err != api.OK || gen != g.Stat().Gen {
		g.t.Fatalf("21.7: Pin: %d, %d, %d", pin, gen, err)
	}
	return pin
}

// wantTree: that a pin's tree is just these files.
func (g *ground) wantTree(pin int, files []api.File) {
	g.t.Helper()
	for _, f := range files {
		if b, err := g.Read(pin, f.Path); err != api.OK || !bytes.Equal(b, f.Data) {
			g.t.Fatalf("W3: Read(%d, %s): %q, %d, want %q", pin, f.Path, b, err, f.Data)
		}
	}
	if got := g.paths(pin, ""); !slices.Equal(got, pathsOf(files)) {
		g.t.Fatalf("W3: the files of the pin %d: %q, want %q", pin, got, pathsOf(files))
	}
}

// wantCurrent: that the current tree is just these files.
func (g *ground) wantCurrent(files []api.File) {
	g.t.Helper()
	pin := g.pin()
	g.wantTree(pin, files)
	g.Unpin(pin)
	if key := keyOf(files); g.Stat().Key != key {
		g.t.Fatalf("W10: Key: %x, want %x", g.Stat().Key, key)
	}
}

// paths: of all files of a pin's tree below a directory, as List tells them.
func (g *ground) paths(pin int, dir string) []string {
	g.t.Helper()
	l, err := g.List(pin, dir)
	if err != api.OK {
		g.t.Fatalf("21.8: List(%d, %s): %d", pin, dir, err)
	}
	var all []string
	for _, x := range l {
		at := strings.TrimPrefix(dir+"/"+x.Name, "/")
		if x.Dir {
			all = append(all, g.paths(pin, at)...)
			continue
		}
		all = append(all, at)
		if b, err := g.Read(pin, at); err == api.OK && len(b) != x.Len {
			g.t.Fatalf("21.8: List tells %s to have %d bytes, it has %d", at, x.Len, len(b))
		}
	}
	return all
}

// pathsOf: the files' paths, in their order.
func pathsOf(files []api.File) []string {
	var l []string
	for _, f := range files {
		l = append(l, f.Path)
	}
	return l
}

// keyOf: the key of a tree of these files.
func keyOf(files []api.File) api.Key {
	below := map[string][]api.File{}
	var l []api.Entry
	for _, f := range files {
		name, rest, deeper := strings.Cut(f.Path, "/")
		if !deeper {
			key := sha.Sum(f.Data)
			l = append(l, api.Entry{Name: name, Key: key, Ref: api.Ref{Hash: key, Len: len(f.Data)}})
			continue
		}
		below[name] = append(below[name], api.File{Path: rest, Data: f.Data})
	}
	for _, name := range slices.Sorted(maps.Keys(below)) {
		l = append(l, api.Entry{Name: name, Dir: true, Key: keyOf(below[name])})
	}
	slices.SortFunc(l, func(a, b api.Entry) int { return strings.Compare(a.Name, b.Name) })
	key, _ := node.KeyOf(l)
	return key
}

// wantStat: that Stat tells so many sectors held, spent and free, and results kept.
func (g *ground) wantStat(held, spent, free, kept int) {
	g.t.Helper()
	s := g.Stat()
	if s.Held != held || s.Spent != spent || s.Free != free || s.Kept != kept {
		g.t.Fatalf("21.12: held %d, spent %d, free %d, kept %d, want %d, %d, %d, %d", s.Held, s.Spent, s.Free, s.Kept, held, spent, free, kept)
	}
}

// sectors: what a disk reads.
func sectors(d *disk.Disk) [][]byte {
	l := make([][]byte, d.Sectors())
	for n := range l {
		l[n], _ = d.Read(n)
	}
	return l
}

// copyOf: a disk that reads as this one, and lasts as this one where it isn't written since.
func copyOf(d *disk.Disk) *disk.Disk {
	c, _ := disk.Load(d.Image())
	for n, b := range sectors(d) {
		if last, _ := c.Read(n); !bytes.Equal(last, b) {
			c.Write(n, b)
		}
	}
	return c
}

// acts: what so many single Steps did, a word each: the sector that was written, or - for a Flush.
func (g *ground) acts(n int) string {
	g.t.Helper()
	var l []string
	for range n {
		l = append(l, g.act(func() api.Progress { return g.step(1) }))
	}
	return strings.Join(l, " ")
}

// act: what a call did that does one Write or Flush.
func (g *ground) act(do func() api.Progress) string {
	g.t.Helper()
	old, before := sectors(g.disk), g.disk.Acts()
	p := do()
	after := g.disk.Acts()
	switch {
	case after.Flushes > before.Flushes:
		return "-"
	case after.Writes == before.Writes:
		return fmt.Sprintf("%+v", p)
	}
	word := "same"
	for n, b := range sectors(g.disk) {
		if !bytes.Equal(b, old[n]) {
			word = fmt.Sprint(n)
		}
	}
	return word
}

// slotIn: the slot in a sector.
func slotIn(t *testing.T, d *disk.Disk, n int) api.Slot {
	t.Helper()
	b, _ := d.Read(n)
	s, err := root.Decode(b)
	if err != api.OK {
		t.Fatalf("no slot in %d", n)
	}
	return s
}

// recordIn: the record in a sector.
func recordIn(t *testing.T, d *disk.Disk, n int) api.Record {
	t.Helper()
	b, _ := d.Read(n)
	r, err := journal.Decode(b)
	if err != api.OK {
		t.Fatalf("no record in %d", n)
	}
	return r
}

// memoBytes: a memo, put together plainly.
func memoBytes(m map[api.Key][]api.Ref) []byte {
	b := []byte{2, byte(len(m))}
	if len(m) > 127 {
		b = []byte{2, byte(len(m)&127 | 128), byte(len(m) >> 7)}
	}
	for _, k := range slices.SortedFunc(maps.Keys(m), func(a, b api.Key) int { return bytes.Compare(a[:], b[:]) }) {
		b = append(append(b, k[:]...), byte(len(m[k])))
		for _, r := range m[k] {
			b = append(b, r.Hash[:]...)
			for _, v := range []int{r.First, r.Len} {
				b = append(b, byte(v), byte(v>>8), byte(v>>16), byte(v>>24))
			}
		}
	}
	return b
}

// prints: of the tasks of a manifest over a source by their names, as far as tasks run; and what they are made of is den's alone.
func prints(manifest string, src []api.File) map[string]api.Key {
	tasks, order, _ := den.Plan(manifest, src)
	data := map[string][]byte{}
	for _, f := range src {
		data[f.Path] = f.Data
	}
	l := map[string]api.Key{}
	for _, i := range order {
		var ins [][]byte
		var keys []api.Key
		for _, in := range tasks[i].In {
			ins, keys = append(ins, data[in]), append(keys, sha.Sum(data[in]))
		}
		l[tasks[i].Name], _ = print.Fingerprint(tasks[i], keys)
		values, _, err := den.Make(tasks[i], ins)
		if err != api.OK {
			break
		}
		for j, out := range tasks[i].Out {
			data[out.Path] = values[j]
		}
	}
	return l
}

// laid: writes chains onto a disk that no engine wrote: by hand.
func laid(t *testing.T, d *disk.Disk, s *space.Space, b []byte) api.Ref {
	t.Helper()
	ref, _, err := chain.Put(d, s, b)
	if err != api.OK {
		t.Fatal(err)
	}
	return ref
}
