package engine

import (
	"bytes"
	"math"
	"strings"
	"testing"
	"unsafe"

	"kiln/api"
)

// tall: a tree of files at several depths.
func tall() (string, []api.File) {
	m := big("a", "d/e/f", "x", 3) + text("b", "d/g", "G") + lines("task c 9", "out empty = \"\"", "end") + text("z", "top", "T")
	return m, []api.File{file("d/e/f", strings.Repeat("x", 3*480-1)), file("d/g", "G"), file("empty", ""), file("top", "T")}
}

// 21.7: pins are told 1, 2 .. with the current generation; MaxPins may be held; none is told twice.
func TestPins(t *testing.T) {
	g := newGround(t, 60, 8)
	for _, n := range append(far, 1) {
		if err := g.Unpin(n); err != api.ErrPin {
			t.Errorf("21.7: Unpin(%d): %d", n, err)
		}
	}
	for i := range api.MaxPins {
		if i == 40 {
			g.publish(text("t", "o", "x"))
		}
		pin, gen, err := g.Pin()
		if pin != i+1 || gen != i/40 || err != api.OK || g.Stat().Pins != i+1 {
			t.Fatalf("21.7: Pin: %d, %d, %d", pin, gen, err)
		}
	}
	if pin, gen, err := g.Pin(); pin != 0 || gen != 0 || err != api.ErrPins {
		t.Errorf("21.7: one too many: %d, %d, %d", pin, gen, err)
	}
	if err := g.Unpin(7); err != api.OK {
		t.Errorf("21.7: %d", err)
	}
	if err := g.Unpin(7); err != api.ErrPin {
		t.Errorf("21.7: %d", err)
	}
	if pin, gen, err := g.Pin(); pin != api.MaxPins+1 || gen != 1 || err != api.OK {
		t.Errorf("21.7: %d, %d, %d", pin, gen, err)
	}
	g.open()
	if g.Stat().Pins != 0 {
		t.Errorf("21.2: %+v", g.Stat())
	}
	if pin := g.pin(); pin != 1 {
		t.Errorf("21.7: another engine's first: %d", pin)
	}
}

// 21.7: the current generation is the one whose root's Flush was answered.
func TestPinOfCurrent(t *testing.T) {
	g := newGround(t, 60, 8)
	g.begin(text("t", "o", "x"))
	g.step(8)
	if _, gen, _ := g.Pin(); gen != 0 {
		t.Errorf("21.7: the root is written alone: %d", gen)
	}
	g.step(1)
	if _, gen, _ := g.Pin(); gen != 1 {
		t.Errorf("21.7: %d", gen)
	}
	g.wantTree(1, nil)
	g.wantTree(2, []api.File{file("o", "x")})
}

// 21.8: Read and List, what they answer and what they refuse, in order.
func TestReadAndList(t *testing.T) {
	g := newGround(t, 60, 8)
	m, files := tall()
	g.publish(m)
	pin := g.pin()
	g.wantTree(pin, files)
	for path, want := range map[string]api.Errno{
		"": api.ErrPath, "/": api.ErrPath, "d/": api.ErrPath, "d//g": api.ErrPath, "..": api.ErrPath,
		"d": api.ErrDir, "d/e": api.ErrDir, "x": api.ErrAbsent, "d/x": api.ErrAbsent, "x/y": api.ErrAbsent,
		"top/x": api.ErrFile, "d/g/x/y": api.ErrFile,
	} {
		if b, err := g.Read(pin, path); b != nil || err != want {
			t.Errorf("21.8: Read(%q): %q, %d, want %d", path, b, err, want)
		}
		if b, err := g.Read(9, path); b != nil || err != api.ErrPin {
			t.Errorf("21.8: Read(%q) by no pin: %q, %d", path, b, err)
		}
	}
	for path, want := range map[string]api.Errno{
		"/": api.ErrPath, "d/": api.ErrPath, ".": api.ErrPath,
		"top": api.ErrFile, "d/g": api.ErrFile, "top/x": api.ErrFile, "x": api.ErrAbsent, "d/x": api.ErrAbsent,
	} {
		if l, err := g.List(pin, path); l != nil || err != want {
			t.Errorf("21.8: List(%q): %v, %d, want %d", path, l, err, want)
		}
		if l, err := g.List(0, path); l != nil || err != api.ErrPin {
			t.Errorf("21.8: List(%q) by no pin: %v, %d", path, l, err)
		}
	}
	for path, want := range map[string][]api.Listed{
		"":    {{Name: "d", Dir: true}, {Name: "empty"}, {Name: "top", Len: 1}},
		"d":   {{Name: "e", Dir: true}, {Name: "g", Len: 1}},
		"d/e": {{Name: "f", Len: 1439}},
	} {
		l, err := g.List(pin, path)
		if err != api.OK || len(l) != len(want) {
			t.Fatalf("21.8: List(%q): %v, %d", path, l, err)
		}
		for i := range l {
			if l[i] != want[i] {
				t.Errorf("21.8: List(%q): %v, want %v", path, l, want)
			}
		}
	}
}

// spots: the sectors of the root's node, of d's, of e's, and of d/e/f.
func (g *ground) spots() (root, d, e int, f []int) {
	g.t.Helper()
	for _, ref := range g.Engine.current.chains {
		b, _, _ := g.Engine.store.Get(ref)
		switch {
		case ref == g.Engine.current.root:
			root = ref.First
		case len(b) > 1000:
			f = g.Engine.store.Sectors(ref)
		case len(b) > 2 && b[0] == 1 && b[1] == 2:
			d = ref.First
		case len(b) > 2 && b[0] == 1:
			e = ref.First
		}
	}
	return root, d, e, f
}

// 21.8, 21.9, W9: what is broken on the way is told, and nothing else is hindered by it.
func TestReadBroken(t *testing.T) {
	g := newGround(t, 60, 8)
	m, _ := tall()
	g.publish(m)
	pin := g.pin()
	root, d, e, f := g.spots()
	for _, c := range []struct {
		sector     int
		read, list map[string]api.Errno
	}{
		{root, map[string]api.Errno{"top": api.ErrBroken, "x": api.ErrBroken, "d/e/f": api.ErrBroken, "": api.ErrPath}, map[string]api.Errno{"": api.ErrBroken, "d": api.ErrBroken}},
		{d, map[string]api.Errno{"top": api.OK, "x": api.ErrAbsent, "d": api.ErrDir, "d/x": api.ErrBroken, "d/g": api.ErrBroken}, map[string]api.Errno{"": api.OK, "d": api.ErrBroken, "d/e": api.ErrBroken}},
		{e, map[string]api.Errno{"top": api.OK, "d/g": api.OK, "d/e": api.ErrDir, "d/e/f": api.ErrBroken}, map[string]api.Errno{"": api.OK, "d": api.OK, "d/e": api.ErrBroken, "d/e/f": api.ErrBroken}},
		{f[1], map[string]api.Errno{"top": api.OK, "d/g": api.OK, "d/e/f": api.ErrBroken, "d/e/f/g": api.ErrFile}, map[string]api.Errno{"d/e": api.OK, "d/e/f": api.ErrFile}},
	} {
		g.disk.Turn(c.sector, 333)
		for path, want := range c.read {
			if b, err := g.Read(pin, path); err != want || err != api.OK && b != nil {
				t.Errorf("21.8: Read(%q): %d, want %d", path, err, want)
			}
			if r, err := g.Reading(pin, path); err == api.OK {
				if b, ended, err := r.More(99); !ended || err != want || err != api.OK && b != nil {
					t.Errorf("21.9: of %q: %d, want %d", path, err, want)
				}
			} else if err != want {
				t.Errorf("21.9: Reading(%q): %d", path, err)
			}
		}
		for path, want := range c.list {
			if l, err := g.List(pin, path); err != want || err != api.OK && l != nil {
				t.Errorf("21.8: List(%q): %d, want %d", path, err, want)
			}
		}
		g.disk.Turn(c.sector, 333)
	}
}

// more: that a reading's More tells this, by so many Reads.
func (g *ground) more(r *Reading, n int, data string, ended bool, want api.Errno, reads int) {
	g.t.Helper()
	before := g.disk.Acts()
	b, e, err := r.More(n)
	before.Reads += reads
	if string(b) != data || e != ended || err != want || (b != nil) != (data != "") {
		g.t.Fatalf("21.9: More(%d): %q, %t, %d, want %q, %t, %d", n, b, e, err, data, ended, want)
	}
	if g.disk.Acts() != before {
		g.t.Fatalf("21.9: More(%d): %+v, want %+v", n, g.disk.Acts(), before)
	}
}

// reading: a reading, which has done no Read.
func (g *ground) reading(pin int, path string) *Reading {
	g.t.Helper()
	before := g.disk.Acts()
	r, err := g.Reading(pin, path)
	if r == nil || err != api.OK || g.disk.Acts() != before {
		g.t.Fatalf("21.9: Reading(%d, %q): %d", pin, path, err)
	}
	return r
}

// 21.9: what Reading refuses.
func TestReadingRefused(t *testing.T) {
	g := newGround(t, 60, 8)
	for _, path := range []string{"", "a", "/", ".."} {
		if r, err := g.Reading(1, path); r != nil || err != api.ErrPin {
			t.Errorf("21.9: Reading(1, %q): %d", path, err)
		}
	}
	pin := g.pin()
	for _, path := range []string{"", "/", "..", "a/", "é"} {
		if r, err := g.Reading(pin, path); r != nil || err != api.ErrPath {
			t.Errorf("21.9: Reading(%q): %d", path, err)
		}
	}
}

// 21.9: Reads one by one, and as many as are asked for; a Read that is the last one ends it in the same call.
func TestMore(t *testing.T) {
	g := newGround(t, 60, 8)
	m, files := tall()
	g.publish(m)
	pin := g.pin()
	whole := string(files[0].Data)
	r := g.reading(pin, "d/e/f")
	for range 5 {
		g.more(r, 1, "", false, api.OK, 1)
	}
	g.more(r, 0, "", false, api.ErrSteps, 0)
	g.more(r, -1, "", false, api.ErrSteps, 0)
	g.more(r, 1, whole, true, api.OK, 1) // three nodes and three sectors
	g.more(r, 1, "", false, api.ErrOver, 0)
	g.more(r, 0, "", false, api.ErrOver, 0)
	for _, n := range []int{6, 7, math.MaxInt} {
		g.more(g.reading(pin, "d/e/f"), n, whole, true, api.OK, 6)
	}
	r = g.reading(pin, "d/e/f")
	g.more(r, 2, "", false, api.OK, 2)
	g.more(r, 3, "", false, api.OK, 3)
	g.more(r, 2, whole, true, api.OK, 1)
	for path, c := range map[string]struct {
		err   api.Errno
		reads int
	}{"x": {api.ErrAbsent, 1}, "d": {api.ErrDir, 1}, "d/e": {api.ErrDir, 2}, "d/x": {api.ErrAbsent, 2}, "top/x": {api.ErrFile, 1}, "d/g/x": {api.ErrFile, 2}, "d/e/f/x": {api.ErrFile, 3}} {
		g.more(g.reading(pin, path), 99, "", true, c.err, c.reads)
		r := g.reading(pin, path)
		for range c.reads - 1 {
			g.more(r, 1, "", false, api.OK, 1)
		}
		g.more(r, 1, "", true, c.err, 1)
		g.more(r, 1, "", false, api.ErrOver, 0)
	}
	b, ended, err := g.reading(pin, "empty").More(2)
	if len(b) != 0 || !ended || err != api.OK {
		t.Errorf("21.9: an empty file: %q, %t, %d", b, ended, err)
	}
}

// 21.9: a reading whose pin is let go of has ended, also where the generation is pinned by another one.
func TestReadingUnpinned(t *testing.T) {
	g := newGround(t, 60, 8)
	m, files := tall()
	g.publish(m)
	one, two := g.pin(), g.pin()
	r, s := g.reading(one, "d/e/f"), g.reading(two, "d/e/f")
	over := g.reading(one, "top")
	g.more(over, 9, "T", true, api.OK, 2)
	g.more(r, 1, "", false, api.OK, 1)
	g.more(s, 5, "", false, api.OK, 5)
	g.Unpin(one)
	g.more(over, 1, "", false, api.ErrOver, 0)
	g.more(r, 0, "", true, api.ErrPin, 0)
	g.more(r, 1, "", false, api.ErrOver, 0)
	g.more(s, 1, string(files[0].Data), true, api.OK, 1)
}

// W3, 21.9: several readings, of old trees too, go on whatever is built and scavenged between their Reads.
func TestReadingsGoOn(t *testing.T) {
	g := newGround(t, 90, 8)
	m, files := tall()
	g.publish(m)
	pin := g.pin()
	a, b := g.reading(pin, "d/e/f"), g.reading(pin, "top")
	g.more(a, 1, "", false, api.OK, 1)
	g.publish(big("q", "d/e/f", "y", 4))
	g.scavenge()
	g.more(a, 1, "", false, api.OK, 1)
	g.more(b, 1, "", false, api.OK, 1)
	last := g.pin()
	c := g.reading(last, "d/e/f")
	g.publish("")
	g.scavenge()
	g.publish(big("r", "w", "z", 9))
	g.more(c, 99, strings.Repeat("y", 4*480-1), true, api.OK, 3+4)
	g.more(a, 99, string(files[0].Data), true, api.OK, 4)
	g.more(b, 99, "T", true, api.OK, 1)
	g.wantTree(pin, files)
	g.Unpin(last)
	g.scavenge()
	g.publish(big("r", "v", "v", 6))
	g.wantTree(pin, files)
}

// 21.13: answers are new memory, spare room too.
func TestReadMemory(t *testing.T) {
	g := newGround(t, 60, 8)
	m, files := tall()
	g.publish(m)
	pin := g.pin()
	spoil := func(b []byte) {
		b = b[:cap(b)]
		for i := range b {
			b[i] = 'S'
		}
	}
	for range 2 {
		b, _ := g.Read(pin, "d/e/f")
		spoil(b)
		b, _, _ = g.reading(pin, "d/e/f").More(99)
		spoil(b)
		l, _ := g.List(pin, "")
		l = l[:cap(l)]
		for i := range l {
			l[i] = api.Listed{Name: "S"}
		}
	}
	g.wantTree(pin, files)
}

// lent: a text that lies in memory which is written over later.
func lent(s string) (string, func()) {
	b := []byte(s)
	return unsafe.String(unsafe.SliceData(b), len(b)), func() {
		for i := range b {
			b[i] = '#'
		}
	}
}

// 21.13: what is handed in is copied, and not changed.
func TestHandedIn(t *testing.T) {
	g := newGround(t, 60, 8)
	data := []byte("abc and more")
	manifest, over := lent(lines("task t 99", "in in", "out o = in(in)", "end"))
	path, overPath := lent("in")
	src := []api.File{{Path: path, Data: data[:3]}, {Path: "left", Data: nil}, {}}
	g.begin(manifest, src[:2]...)
	if !bytes.Equal(data, []byte("abc and more")) {
		t.Error("21.13: the data is changed")
	}
	over()
	overPath()
	copy(data, "xyz")
	src[0] = file("other", "")
	g.step(99)
	if !bytes.Equal(data, []byte("xyz and more")) || src[0].Path != "other" || src[2].Path != "" {
		t.Error("21.13: what was handed in is changed")
	}
	g.wantCurrent([]api.File{file("o", "abc")})
	path, overPath = lent("o")
	r := g.reading(g.pin(), path)
	overPath()
	g.more(r, 9, "abc", true, api.OK, 2)
}
