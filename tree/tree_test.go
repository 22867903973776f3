package tree

import (
	"bytes"
	"fmt"
	"iter"
	"math"
	"math/rand"
	"slices"
	"strings"
	"testing"
	"unsafe"

	"kiln/api"
	"kiln/chain"
	"kiln/node"
	"kiln/path"
)

// far: numbers outside everything, and such as come back inside if a width or a sign is lost.
var far = []int{math.MinInt, -1 << 32, -1<<32 + 10, -65536, -1, 65536, 65546, 1 << 32, 1<<32 + 10, math.MaxInt}

// example: the tree of the chapter's examples.
func example(t *testing.T) (*ground, *Tree, plan) {
	t.Helper()
	g := newGround(t, 40, 10)
	x, p := g.plant(t, map[string]string{"a/b": "x", "c": ""})
	return g, x, p
}

func wantFound(t *testing.T, x *Tree, at string, want api.Entry) {
	t.Helper()
	if e, n, err := x.Find(at); e != want || n != 0 || err != api.OK {
		t.Errorf("Find(%q): %v, %d, %d; not %v", at, e, n, err, want)
	}
}

func wantNotFound(t *testing.T, x *Tree, at string, sector int, want api.Errno) {
	t.Helper()
	if e, n, err := x.Find(at); e != (api.Entry{}) || n != sector || err != want {
		t.Errorf("Find(%q): %v, %d, %d; not %d, %d", at, e, n, err, sector, want)
	}
}

func wantGot(t *testing.T, x *Tree, at, want string) {
	t.Helper()
	if b, n, err := x.Get(at); string(b) != want || n != 0 || err != api.OK {
		t.Errorf("Get(%q): %q, %d, %d; not %q", at, b, n, err, want)
	}
	if b, n, err := finished(t, x, at); string(b) != want || n != 0 || err != api.OK {
		t.Errorf("Reading(%q): %q, %d, %d; not %q", at, b, n, err, want)
	}
}

func wantNotGot(t *testing.T, x *Tree, at string, sector int, want api.Errno) {
	t.Helper()
	if b, n, err := x.Get(at); len(b) != 0 || n != sector || err != want {
		t.Errorf("Get(%q): %q, %d, %d; not %d, %d", at, b, n, err, sector, want)
	}
	if b, n, err := finished(t, x, at); len(b) != 0 || n != sector || err != want {
		t.Errorf("Reading(%q): %q, %d, %d; not %d, %d", at, b, n, err, sector, want)
	}
}

func wantListed(t *testing.T, x *Tree, at string, want ...api.Listed) {
	t.Helper()
	if l, n, err := x.List(at); !slices.Equal(l, want) || n != 0 || err != api.OK {
		t.Errorf("List(%q): %v, %d, %d; not %v", at, l, n, err, want)
	}
}

func wantNotListed(t *testing.T, x *Tree, at string, sector int, want api.Errno) {
	t.Helper()
	if l, n, err := x.List(at); len(l) != 0 || n != sector || err != want {
		t.Errorf("List(%q): %v, %d, %d; not %d, %d", at, l, n, err, sector, want)
	}
}

func wantNotAll(t *testing.T, x *Tree, sector int, want api.Errno) {
	t.Helper()
	if l, n, err := x.All(); len(l) != 0 || n != sector || err != want {
		t.Errorf("All: %v, %d, %d; not %d, %d", l, n, err, sector, want)
	}
}

func wantWalked(t *testing.T, x *Tree, want ...string) {
	t.Helper()
	var l []string
	for at := range x.Walk() {
		l = append(l, at)
	}
	if !slices.Equal(l, want) {
		t.Errorf("Walk tells %q, not %q", l, want)
	}
}

// finished: what a reading answers when all its Steps are done; as Get answers it.
func finished(t *testing.T, x *Tree, at string) ([]byte, int, api.Errno) {
	t.Helper()
	r, err := x.Reading(at)
	if err != api.OK {
		return nil, 0, err
	}
	for ended := false; !ended; {
		ended, err = r.Step()
	}
	return r.Bytes(), r.Broken(), err
}

func (g *ground) turn(t *testing.T, sector int) {
	t.Helper()
	if err := g.disk.Turn(sector, 300); err != api.OK {
		t.Fatal(err)
	}
}

func TestExamples(t *testing.T) {
	g, x, p := example(t)
	wantGot(t, x, "a/b", "x")
	wantGot(t, x, "c", "")
	wantNotGot(t, x, "a", 0, api.ErrDir)
	wantNotGot(t, x, "c/d", 0, api.ErrFile)
	wantNotGot(t, x, "d", 0, api.ErrAbsent)
	wantNotGot(t, x, "a/", 0, api.ErrPath)
	wantNotGot(t, x, "", 0, api.ErrPath)
	wantListed(t, x, "", api.Listed{Name: "a", Dir: true}, api.Listed{Name: "c"})
	wantNotListed(t, x, "c", 0, api.ErrFile)
	wantNotListed(t, x, "x", 0, api.ErrAbsent)
	wantWalked(t, x, "", "a", "a/b", "c")
	wantReading(t, g, x, "a/b", []byte("x"), 0, api.OK, 3)
	wantReading(t, g, x, "d", nil, 0, api.ErrAbsent, 1)
	wantAsPlain(t, g, x, p.asked())
}

func Test9_1(t *testing.T) {
	if x, err := New(nil, api.Key{1}, api.Ref{First: 12, Len: 9}); x != nil || err != api.ErrArg {
		t.Errorf("New of no store: %v, %d", x, err)
	}
	g, _, _ := example(t)
	was := g.disk.Acts()
	refs := []api.Ref{{}, {Hash: api.Key{7}, First: 12, Len: 3}}
	for _, n := range far {
		refs = append(refs, api.Ref{First: n}, api.Ref{Len: n})
	}
	for i, ref := range refs {
		key := api.Key{byte(i), 31: 9}
		x, err := New(g.store, key, ref)
		if x == nil || err != api.OK {
			t.Fatalf("New(%v): %v, %d", ref, x, err)
		}
		if x.Key() != key || x.Ref() != ref {
			t.Errorf("Key and Ref: %v, %v; not %v, %v", x.Key(), x.Ref(), key, ref)
		}
		wantFound(t, x, "", api.Entry{Dir: true, Key: key, Ref: ref})
	}
	if g.disk.Acts() != was {
		t.Error("New, Key, Ref and Find of the root do acts")
	}
}

func Test9_2(t *testing.T) {
	g := newGround(t, 200, 10)
	x, p := g.plant(t, map[string]string{"a": "1", "a.b": "2", "b/a": "3", "b/b": "4", "b/c/d/e": strings.Repeat("5", 1000), "b.c/d": "6", "c": ""})
	for at, e := range p.entries {
		wantFound(t, x, at, e)
	}
	for at, want := range map[string]api.Errno{
		"/":         api.ErrPath,
		"a/":        api.ErrPath,
		"/a":        api.ErrPath,
		"b//a":      api.ErrPath,
		"b/../a":    api.ErrPath,
		"nobody/..": api.ErrPath,
		"a/b/..":    api.ErrPath,
		"0":         api.ErrAbsent, // ahead of all
		"aa":        api.ErrAbsent,
		"A":         api.ErrAbsent,
		"d":         api.ErrAbsent, // behind all
		"b/d":       api.ErrAbsent,
		"b/c/a":     api.ErrAbsent,
		"d/a":       api.ErrAbsent,
		"b/d/a/b":   api.ErrAbsent,
		"a/b":       api.ErrFile,
		"a/a":       api.ErrFile,
		"c/d/e":     api.ErrFile,
		"b/a/x":     api.ErrFile,
		"b/c/d/e/f": api.ErrFile,
	} {
		wantNotFound(t, x, at, 0, want)
	}
}

// What is not on the way is not read: it may be broken.
func Test9_2OnTheWay(t *testing.T) {
	g := newGround(t, 100, 10)
	x, p := g.plant(t, map[string]string{"a/b/c": "1", "a/d": "2", "e": "3", "f/g": "4"})
	for _, at := range []string{"a/b", "a/d", "e", "f"} {
		g.turn(t, p.entries[at].Ref.First)
	}
	for _, at := range []string{"a", "a/b", "a/d", "e", "f"} {
		wantFound(t, x, at, p.entries[at])
	}
	wantNotFound(t, x, "e/x", 0, api.ErrFile)
	wantNotFound(t, x, "a/d/x/y", 0, api.ErrFile)
	wantNotFound(t, x, "a/x", 0, api.ErrAbsent)
	wantNotFound(t, x, "a/b/c", p.entries["a/b"].Ref.First, api.ErrBroken)
	wantNotFound(t, x, "a/b/x/y", p.entries["a/b"].Ref.First, api.ErrBroken)
	wantNotFound(t, x, "f/x", p.entries["f"].Ref.First, api.ErrBroken)
	g.turn(t, x.Ref().First)
	wantFound(t, x, "", p.entries[""])
	wantNotFound(t, x, "e", x.Ref().First, api.ErrBroken)
	wantNotFound(t, x, "nobody", x.Ref().First, api.ErrBroken)
	wantNotFound(t, x, "e/", 0, api.ErrPath) // ahead of any Read
}

// wantNoDirectory: what an entry of the root leads to is no directory, and the sector is this one.
func wantNoDirectory(t *testing.T, g *ground, what string, e api.Entry, sector int) {
	t.Helper()
	t.Run(what, func(t *testing.T) {
		e.Name = "e"
		x := g.tree(t, g.file(t, "d", "ahead"), e, g.file(t, "f", "behind"))
		wantFound(t, x, "e", e)
		wantNotGot(t, x, "e", 0, api.ErrDir)
		wantNotFound(t, x, "e/a", sector, api.ErrBroken)
		wantNotFound(t, x, "e/a/b", sector, api.ErrBroken)
		wantNotGot(t, x, "e/a", sector, api.ErrBroken)
		wantNotListed(t, x, "e", sector, api.ErrBroken)
		wantNotListed(t, x, "e/a", sector, api.ErrBroken)
		wantNotAll(t, x, sector, api.ErrBroken)
		wantWalked(t, x, "", "d", "e", "f")
		wantAsPlain(t, g, x, []string{"d", "e", "f", "e/a", "e/a/b"})
	})
}

func Test9_2Broken(t *testing.T) {
	g := newGround(t, 400, 10)
	for what, text := range map[string]string{"nothing": "", "a text": "text", "another mark": "\x02\x00", "a piece of a node": "\x01\x01", "more than a node": "\x01\x00\x00"} {
		e := g.file(t, "e", text)
		e.Dir = true
		e.Key = repeatedKey(1)
		wantNoDirectory(t, g, what, e, e.Ref.First)
	}
	in := []api.Entry{g.file(t, "a", "1"), g.file(t, "b", "2")}
	whole := g.dir(t, "e", in...)
	for i := range 32 {
		e := whole
		e.Key[i] ^= 1 << (i % 8)
		wantNoDirectory(t, g, fmt.Sprint("another key at ", i), e, e.Ref.First)
	}
	e := whole
	e.Key = e.Ref.Hash
	wantNoDirectory(t, g, "the node's hash for a key", e, e.Ref.First)
	e = whole
	e.Ref = g.dir(t, "e", in[0]).Ref
	wantNoDirectory(t, g, "another directory's node", e, e.Ref.First)
	e = g.dir(t, "e")
	wantNoDirectory(t, g, "no entry", e, e.Ref.First)
	for _, n := range []int{0, 1, 9, 400, 65535} {
		e = whole
		e.Ref.First = n
		wantNoDirectory(t, g, fmt.Sprint("no heap sector ", n), e, n)
	}
	e = whole
	e.Ref.Len++
	wantNoDirectory(t, g, "another length", e, e.Ref.First)
	e = whole
	e.Ref.Hash[31] ^= 1
	wantNoDirectory(t, g, "another hash", e, e.Ref.First)
}

func repeatedKey(x byte) api.Key {
	return api.Key(bytes.Repeat([]byte{x}, 32))
}

// A sector of a node's chain, not its first: that one is told.
func Test9_2BrokenSector(t *testing.T) {
	g := newGround(t, 400, 10)
	for i := range 4 {
		var in []api.Entry
		for k := range 29 {
			in = append(in, g.file(t, fmt.Sprint("a", k), fmt.Sprint(i, k)))
		}
		e := g.dir(t, "e", in...)
		sectors := g.store.Sectors(e.Ref)
		if len(sectors) != 5 {
			t.Fatalf("%d sectors", len(sectors))
		}
		g.turn(t, sectors[i+1])
		wantNoDirectory(t, g, fmt.Sprint("sector ", i+1), e, sectors[i+1])
	}
}

// Each of the chapter's reasons holds of the root too, but that it may be without an entry.
func Test9_2Root(t *testing.T) {
	g := newGround(t, 100, 10)
	whole := g.dir(t, "", g.file(t, "a", "1"))
	wantRoot := func(what string, root api.Entry, sector int, want api.Errno) {
		t.Helper()
		t.Log(what)
		x := g.rooted(t, root)
		wantFound(t, x, "", api.Entry{Dir: true, Key: root.Key, Ref: root.Ref})
		wantNotFound(t, x, "a", sector, want)
		wantNotFound(t, x, "a/b", sector, want)
		wantNotGot(t, x, "a", sector, want)
		wantNotGot(t, x, "", 0, api.ErrPath)
		wantNotListed(t, x, "", sector, want)
		wantNotListed(t, x, "a", sector, want)
		wantNotAll(t, x, sector, want)
		wantWalked(t, x, "")
		wantAsPlain(t, g, x, []string{"", "a", "a/b", "/"})
	}
	e := whole
	e.Key[0] ^= 1
	wantRoot("another key", e, e.Ref.First, api.ErrBroken)
	e = g.file(t, "", "text")
	wantRoot("no node", e, e.Ref.First, api.ErrBroken)
	e.Key = g.dir(t, "").Key
	wantRoot("no node, the key of no entries", e, e.Ref.First, api.ErrBroken)
	e.Ref = whole.Ref
	wantRoot("entries, the key of none", e, e.Ref.First, api.ErrBroken)
	for _, n := range append(far, 0, 9, 100) {
		e = whole
		e.Ref.First = n
		wantRoot("no heap sector", e, n, api.ErrBroken)
	}
	for _, n := range append(far, api.MaxChain+1) {
		if n < 0 || n > api.MaxChain {
			e = whole
			e.Ref.Len = n
			wantRoot("no length", e, 0, api.ErrLong)
			e.Ref.First = 0
			wantRoot("no length, no heap sector", e, 0, api.ErrLong)
		}
	}
	e = whole
	e.Ref.Len = api.MaxChain
	wantRoot("another length", e, e.Ref.First, api.ErrBroken)
	wantRoot("zeros", api.Entry{}, 0, api.ErrBroken)

	none := g.tree(t)
	wantNotFound(t, none, "a", 0, api.ErrAbsent)
	wantNotGot(t, none, "a", 0, api.ErrAbsent)
	wantNotGot(t, none, "a/b", 0, api.ErrAbsent)
	wantListed(t, none, "")
	wantWalked(t, none, "")
	if l, n, err := none.All(); len(l) != 0 || n != 0 || err != api.OK {
		t.Errorf("All of nothing: %v, %d, %d", l, n, err)
	}
}

// nested: a file below these names; the entry of the first one.
func (g *ground) nested(t *testing.T, text string, names ...string) api.Entry {
	t.Helper()
	last := len(names) - 1
	e := g.file(t, names[last], text)
	for i := last - 1; i >= 0; i-- {
		e = g.dir(t, names[i], e)
	}
	return e
}

// A path has at most 16 names: a directory at the sixteenth has none that makes one.
func Test9_2Deep(t *testing.T) {
	g := newGround(t, 200, 10)
	names := slices.Repeat([]string{"n"}, 17)
	x := g.tree(t, g.nested(t, "deep", names[:16]...))
	at := strings.Join(names[:16], "/")
	wantGot(t, x, at, "deep")
	wantNotListed(t, x, at, 0, api.ErrFile)
	if l, _, err := x.All(); len(l) != 1 || l[0].Path != at || err != api.OK {
		t.Errorf("All: %v, %d", l, err)
	}
	x = g.tree(t, g.nested(t, "deep", names...))
	e, _, err := x.Find(at)
	if err != api.OK || !e.Dir {
		t.Fatalf("Find: %v, %d", e, err)
	}
	wantNotFound(t, x, at+"/n", 0, api.ErrPath)
	wantNotGot(t, x, at, 0, api.ErrDir)
	wantNotListed(t, x, at, e.Ref.First, api.ErrBroken)
	wantNotAll(t, x, e.Ref.First, api.ErrBroken)
	var paths []string
	for i := range 17 {
		paths = append(paths, strings.Join(names[:i], "/"))
	}
	wantWalked(t, x, paths...)
	wantAsPlain(t, g, x, paths)
	wantDirs(t, x, paths[:16])
}

// wantDirs: each of these directories lists just one name.
func wantDirs(t *testing.T, x *Tree, paths []string) {
	t.Helper()
	for _, at := range paths {
		if l, _, err := x.List(at); len(l) != 1 || err != api.OK {
			t.Errorf("List(%q): %v, %d", at, l, err)
		}
	}
}

// A path has at most 255 bytes: one name that makes a longer one spoils its directory, and no other one.
func Test9_2Long(t *testing.T) {
	g := newGround(t, 200, 10)
	n := strings.Repeat("n", 63)
	long := func(last string) (*Tree, string) {
		e := g.dir(t, n, g.file(t, "a", "short"), g.file(t, last, "long"), g.file(t, "z", "short"))
		return g.tree(t, g.dir(t, n, g.dir(t, n, e))), strings.Join([]string{n, n, n}, "/")
	}
	x, at := long(strings.Repeat("m", 63)) // 4 times 63, and 3
	if len(at)+1+63 != 255 {
		t.Fatal(len(at))
	}
	wantGot(t, x, at+"/"+strings.Repeat("m", 63), "long")
	wantGot(t, x, at+"/a", "short")
	x, _ = long(strings.Repeat("m", 64))
	e, _, err := x.Find(at)
	if err != api.OK {
		t.Fatal(err)
	}
	wantNotFound(t, x, at+"/"+strings.Repeat("m", 64), 0, api.ErrPath)
	wantNotGot(t, x, at+"/a", e.Ref.First, api.ErrBroken)
	wantNotGot(t, x, at+"/z", e.Ref.First, api.ErrBroken)
	wantNotGot(t, x, at+"/nobody", e.Ref.First, api.ErrBroken)
	wantNotListed(t, x, at, e.Ref.First, api.ErrBroken)
	wantNotAll(t, x, e.Ref.First, api.ErrBroken)
	wantWalked(t, x, "", n, n+"/"+n, at)
	wantDirs(t, x, []string{"", n, n + "/" + n})
	// The same directory is whole where its path is shorter.
	wantGot(t, g.tree(t, e), n+"/"+strings.Repeat("m", 64), "long")
}

func Test9_3(t *testing.T) {
	g := newGround(t, 3000, 10)
	files := map[string]string{"none": "", "one": "x", "d/piece": strings.Repeat("p", 480), "d/more": strings.Repeat("q", 481), "most": strings.Repeat("r", api.MaxFile)}
	x, _ := g.plant(t, files)
	for at, text := range files {
		wantGot(t, x, at, text)
	}
	wantNotGot(t, x, "d", 0, api.ErrDir)
	wantNotGot(t, x, "d/nobody", 0, api.ErrAbsent)
	wantNotGot(t, x, "one/nobody", 0, api.ErrFile)
	wantNotGot(t, x, "", 0, api.ErrPath)
	wantNotGot(t, x, "one/", 0, api.ErrPath)
}

func Test9_3Broken(t *testing.T) {
	g := newGround(t, 100, 10)
	x, p := g.plant(t, map[string]string{"a/b": strings.Repeat("x", 1500), "a/c": "whole"})
	for _, n := range g.store.Sectors(p.entries["a/b"].Ref) {
		g.turn(t, n)
		wantNotGot(t, x, "a/b", n, api.ErrBroken)
		wantNotAll(t, x, n, api.ErrBroken)
		wantGot(t, x, "a/c", "whole")
		wantNotGot(t, x, "a/b/c", 0, api.ErrFile)
		g.turn(t, n)
	}
	wantGot(t, x, "a/b", strings.Repeat("x", 1500))
	for _, n := range []int{0, 9, 100, 65535} {
		e := p.entries["a/c"]
		e.Ref.First = n
		wantNotGot(t, g.tree(t, e), "c", n, api.ErrBroken)
	}
	e := p.entries["a/c"]
	e.Ref.Len--
	wantNotGot(t, g.tree(t, e), "c", e.Ref.First, api.ErrBroken)
	e = p.entries["a/c"]
	e.Key[31] ^= 1
	e.Ref.Hash = e.Key
	wantNotGot(t, g.tree(t, e), "c", e.Ref.First, api.ErrBroken)
}

func Test9_4(t *testing.T) {
	g := newGround(t, 300, 10)
	x, p := g.plant(t, map[string]string{"a-": "1", "a/b": "22", "a/c/d": "4", "a/z": "", "a.b": strings.Repeat("x", 500), "B": "333"})
	wantListed(t, x, "", api.Listed{Name: "B", Len: 3}, api.Listed{Name: "a", Dir: true}, api.Listed{Name: "a-", Len: 1}, api.Listed{Name: "a.b", Len: 500})
	wantListed(t, x, "a", api.Listed{Name: "b", Len: 2}, api.Listed{Name: "c", Dir: true}, api.Listed{Name: "z"})
	wantListed(t, x, "a/c", api.Listed{Name: "d", Len: 1})
	for at, want := range map[string]api.Errno{"a/b": api.ErrFile, "a/b/c": api.ErrFile, "a.b": api.ErrFile, "a/x": api.ErrAbsent, "x/y": api.ErrAbsent, "/": api.ErrPath, "a/": api.ErrPath} {
		wantNotListed(t, x, at, 0, want)
	}
	// Of what is listed nothing is read.
	for _, at := range []string{"a/b", "a/c", "a/z"} {
		g.turn(t, p.entries[at].Ref.First)
	}
	wantListed(t, x, "a", api.Listed{Name: "b", Len: 2}, api.Listed{Name: "c", Dir: true}, api.Listed{Name: "z"})
	wantNotListed(t, x, "a/c", p.entries["a/c"].Ref.First, api.ErrBroken)
	wantNotListed(t, x, "a/b", 0, api.ErrFile)
}

// As many names as a directory may have.
func Test9_4Many(t *testing.T) {
	g := newGround(t, 3000, 10)
	var in []api.Entry
	var want []api.Listed
	same := g.file(t, "f", "one for all")
	for i := range api.MaxDir {
		same.Name = fmt.Sprintf("f%04d", i)
		in = append(in, same)
		want = append(want, api.Listed{Name: same.Name, Len: 11})
	}
	x := g.tree(t, in...)
	wantListed(t, x, "", want...)
	for i := 0; i < len(in); i += 31 { // the first one, the last one, some between
		wantFound(t, x, in[i].Name, in[i])
	}
	wantGot(t, x, "f1023", "one for all")
	if l := walked(x); len(l) != 1025 {
		t.Errorf("Walk tells %d", len(l))
	}
}

func Test9_5(t *testing.T) {
	g := newGround(t, 300, 10)
	x, p := g.plant(t, map[string]string{"a/b": "1", "a/b.c/d": "2", "a/b-": "3", "a.b/c": "4", "a-": "5", "a/c/d/e": "6", "B/b": "7", "z": "8"})
	want := []string{"", "B", "B/b", "a", "a/b", "a/b-", "a/b.c", "a/b.c/d", "a/c", "a/c/d", "a/c/d/e", "a-", "a.b", "a.b/c", "z"}
	if !slices.IsSortedFunc(want, path.Order) {
		t.Fatal("no order")
	}
	wantWalked(t, x, want...)
	for at, e := range x.Walk() {
		if e != p.entries[at] {
			t.Errorf("%q: %v, not %v", at, e, p.entries[at])
		}
	}
	was := g.disk.Acts().Reads
	walked(x)
	nodes := 0
	for at, e := range p.entries {
		if e.Dir {
			nodes += p.sectors(at)
		}
	}
	if reads := g.disk.Acts().Reads - was; reads != nodes {
		t.Errorf("%d Reads, but the nodes have %d sectors", reads, nodes)
	}
}

// It is left anywhere, and gone through again, also while it is gone through.
func Test9_5Left(t *testing.T) {
	g := newGround(t, 300, 10)
	x, _ := g.plant(t, map[string]string{"a/b": "1", "a/c/d": "2", "a/c/e": "3", "f": "4"})
	want := []string{"", "a", "a/b", "a/c", "a/c/d", "a/c/e", "f"}
	loop := x.Walk()
	for n := range want {
		var l []string
		for at := range loop {
			l = append(l, at)
			if len(l) == n+1 {
				break
			}
		}
		if !slices.Equal(l, want[:n+1]) {
			t.Errorf("left behind %d: %q", n+1, l)
		}
	}
	var outer []string
	for at := range loop {
		outer = append(outer, at)
		var inner []string
		for at := range loop {
			inner = append(inner, at)
		}
		if !slices.Equal(inner, want) {
			t.Errorf("within: %q", inner)
		}
	}
	if !slices.Equal(outer, want) {
		t.Errorf("around: %q", outer)
	}
	next, stop := iter.Pull2(loop)
	for _, w := range want[:5] {
		if at, _, ok := next(); at != w || !ok {
			t.Errorf("pulled: %q, %t", at, ok)
		}
	}
	stop()
	wantWalked(t, x, want...)
}

// A directory that cannot be read is told; and the loop goes on behind it.
func Test9_5Broken(t *testing.T) {
	g := newGround(t, 300, 10)
	x, p := g.plant(t, map[string]string{"a/b": "1", "a/c/d": "2", "a/e": "3", "f": "4", "g/h": "5"})
	g.turn(t, p.entries["a/c"].Ref.First)
	wantWalked(t, x, "", "a", "a/b", "a/c", "a/e", "f", "g", "g/h")
	g.turn(t, p.entries["a"].Ref.First)
	wantWalked(t, x, "", "a", "f", "g", "g/h")
	g.turn(t, p.entries["g"].Ref.First)
	g.turn(t, p.entries["f"].Ref.First) // a file's bytes are not read
	wantWalked(t, x, "", "a", "f", "g")
	g.turn(t, x.Ref().First)
	wantWalked(t, x, "")
}

func Test9_6(t *testing.T) {
	g := newGround(t, 300, 10)
	files := map[string]string{"a/b": "1", "a.b/c": strings.Repeat("x", 1000), "a-": "", "B/b": "1", "z": "3"}
	x, p := g.plant(t, files)
	was := g.disk.Acts().Reads
	l, n, err := x.All()
	var want []api.File
	for _, at := range []string{"B/b", "a/b", "a-", "a.b/c", "z"} {
		want = append(want, api.File{Path: at, Data: []byte(files[at])})
	}
	if !sameFiles(l, want) || n != 0 || err != api.OK {
		t.Errorf("All: %v, %d, %d", l, n, err)
	}
	reads := 0
	for _, at := range p.paths() {
		reads += p.sectors(at)
	}
	if did := g.disk.Acts().Reads - was; did != reads {
		t.Errorf("%d Reads, not %d", did, reads)
	}
}

// Where more than one thing is broken the first one in the order of paths is told.
func Test9_6First(t *testing.T) {
	g := newGround(t, 300, 10)
	x, p := g.plant(t, map[string]string{"a/b": "1", "a/c/d": "2", "a/e": "3", "a.b": "4", "g/h": "5", "i": "6"})
	paths := p.paths()
	for i := len(paths) - 1; i >= 0; i-- {
		n := p.entries[paths[i]].Ref.First
		g.turn(t, n)
		wantNotAll(t, x, n, api.ErrBroken)
	}
	long := x.Ref()
	long.Len = -1
	wantNotAll(t, g.rooted(t, api.Entry{Key: x.Key(), Ref: long}), 0, api.ErrLong)
}

func Test9_7(t *testing.T) {
	g := newGround(t, 100, 10)
	h := newGround(t, 100, 20)
	h.put(t, []byte("lies ahead"))
	files := map[string]string{"a/b": "1", "c": "2"}
	x, _ := g.plant(t, files)
	y, _ := h.plant(t, files)
	if x.Ref() == y.Ref() {
		t.Fatal("both lie alike")
	}
	z, _ := g.plant(t, map[string]string{"a/b": "1", "c": "3"})
	broken := g.rooted(t, api.Entry{Key: x.Key()})
	for _, r := range []struct {
		a, b *Tree
		want bool
	}{{x, x, true}, {x, y, true}, {y, x, true}, {x, broken, true}, {x, z, false}, {z, x, false}, {x, nil, false}, {nil, x, false}, {nil, nil, false}} {
		if got := Same(r.a, r.b); got != r.want {
			t.Errorf("Same(%p, %p): %t", r.a, r.b, got)
		}
	}
	for i := range 32 {
		key := x.Key()
		key[i] ^= 128
		if Same(x, g.rooted(t, api.Entry{Key: key, Ref: x.Ref()})) {
			t.Errorf("another key at %d", i)
		}
	}
}

// wide: a tree with chains of some sectors on the way of a/b, and the sectors that a reading of it reads.
func wide(t *testing.T) (*ground, *Tree, []int, string) {
	t.Helper()
	g := newGround(t, 300, 10)
	files := map[string]string{"a/b": strings.Repeat("long", 400)}
	for i := range 15 {
		files[fmt.Sprint("f", i)] = "beside"
		files[fmt.Sprint("a/f", i)] = "beside too"
	}
	x, p := g.plant(t, files)
	var sectors []int
	for _, at := range []string{"", "a", "a/b"} {
		l := g.store.Sectors(p.entries[at].Ref)
		if len(l) < 3 {
			t.Fatalf("%d sectors", len(l))
		}
		sectors = append(sectors, l...)
	}
	return g, x, sectors, files["a/b"]
}

// A Step reads just the next sector: one that is broken is told by its own Step, and behind that no more is it seen.
func Test9_8(t *testing.T) {
	g, x, sectors, text := wide(t)
	wantReading(t, g, x, "a/b", []byte(text), 0, api.OK, len(sectors))
	for i, n := range sectors {
		r, err := x.Reading("a/b")
		if err != api.OK {
			t.Fatal(err)
		}
		for range i {
			if ended, err := r.Step(); ended || err != api.OK {
				t.Fatalf("%t, %d", ended, err)
			}
		}
		g.turn(t, n)
		wantReading(t, g, x, "a/b", nil, n, api.ErrBroken, i+1)
		if ended, err := r.Step(); !ended || err != api.ErrBroken || r.Broken() != n || len(r.Bytes()) != 0 {
			t.Errorf("Step %d: %t, %d, %d", i, ended, err, r.Broken())
		}
		g.turn(t, n)
		if ended, err := r.Step(); !ended || err != api.ErrBroken || r.Broken() != n {
			t.Errorf("behind its end: %t, %d, %d", ended, err, r.Broken())
		}
	}
	for i := range sectors {
		r, _ := x.Reading("a/b")
		for k := range sectors {
			if k == i+1 {
				g.turn(t, sectors[i])
			}
			if ended, err := r.Step(); ended != (k == len(sectors)-1) || err != api.OK {
				t.Errorf("%d broken behind its Read: Step %d: %t, %d", i, k, ended, err)
			}
		}
		if i < len(sectors)-1 {
			g.turn(t, sectors[i])
		}
		if string(r.Bytes()) != text || r.Broken() != 0 {
			t.Errorf("%q, %d", r.Bytes(), r.Broken())
		}
	}
}

// How many Reads each end needs.
func Test9_8Ends(t *testing.T) {
	g, x, sectors, _ := wide(t)
	root, e := chain.Sectors(x.Ref().Len), 0
	if dir, _, err := x.Find("a"); err == api.OK {
		e = chain.Sectors(dir.Ref.Len)
	}
	if root+e+4 != len(sectors) {
		t.Fatal(root, e, len(sectors))
	}
	wantReading(t, g, x, "nobody", nil, 0, api.ErrAbsent, root)
	wantReading(t, g, x, "nobody/at/all", nil, 0, api.ErrAbsent, root)
	wantReading(t, g, x, "f0/x", nil, 0, api.ErrFile, root)
	wantReading(t, g, x, "a", nil, 0, api.ErrDir, root)
	wantReading(t, g, x, "a/x", nil, 0, api.ErrAbsent, root+e)
	wantReading(t, g, x, "a/b/x", nil, 0, api.ErrFile, root+e)
	wantReading(t, g, x, "f0", []byte("beside"), 0, api.OK, root+1)
	wantReading(t, g, x, "a/f0", []byte("beside too"), 0, api.OK, root+e+1)
	for _, at := range []string{"", "/", "a/", "/a", "a//b", "..", "a b", strings.Repeat("a/", 16) + "a"} {
		wantReading(t, g, x, at, nil, 0, api.ErrPath, 0)
	}
}

// A reading ends without a Read, where none may be done; and ahead of its first Step it has not ended.
func Test9_8NoRead(t *testing.T) {
	g, x, _ := example(t)
	was := g.disk.Acts()
	for _, n := range append(far, 0, 9, 40) {
		ref := x.Ref()
		ref.First = n
		wantReading(t, g, g.rooted(t, api.Entry{Key: x.Key(), Ref: ref}), "a/b", nil, n, api.ErrBroken, 0)
	}
	for _, n := range far {
		if n < 0 || n > api.MaxChain {
			ref := x.Ref()
			ref.Len = n
			wantReading(t, g, g.rooted(t, api.Entry{Key: x.Key(), Ref: ref}), "a/b", nil, 0, api.ErrLong, 0)
		}
	}
	if g.disk.Acts() != was {
		t.Error("something was read")
	}
	// Further on such an end comes with the Read ahead of it.
	for _, n := range []int{0, 9, 40, 65535} {
		for _, dir := range []bool{false, true} {
			e := api.Entry{Name: "e", Dir: dir, Ref: api.Ref{First: n}}
			at := "e"
			if dir {
				at = "e/f"
			}
			wantReading(t, g, g.tree(t, e), at, nil, n, api.ErrBroken, 1)
		}
	}
}

// Two readings, by turns.
func Test9_8Two(t *testing.T) {
	g, x, sectors, text := wide(t)
	a, _ := x.Reading("a/b")
	b, _ := x.Reading("a/b")
	c, _ := x.Reading("f3")
	for range sectors {
		a.Step()
		c.Step()
	}
	if string(a.Bytes()) != text || len(b.Bytes()) != 0 || string(c.Bytes()) != "beside" {
		t.Errorf("%q, %q, %q", a.Bytes(), b.Bytes(), c.Bytes())
	}
	was := g.disk.Acts().Reads
	for i := range sectors {
		if ended, err := b.Step(); ended != (i == len(sectors)-1) || err != api.OK {
			t.Errorf("%t, %d", ended, err)
		}
	}
	if string(b.Bytes()) != text || g.disk.Acts().Reads-was != len(sectors) {
		t.Errorf("%q", b.Bytes())
	}
}

func Test9_8Stepper(t *testing.T) {
	_, x, _ := example(t)
	r, _ := x.Reading("a/b")
	var s api.Stepper = r
	for _, want := range []bool{false, false, true, true} {
		if ended, err := s.Step(); ended != want || err != api.OK {
			t.Errorf("%t, %d", ended, err)
		}
	}
}

// wantAsMap holds a tree to the map that it was written of.
func wantAsMap(t *testing.T, g *ground, x *Tree, p plan) {
	t.Helper()
	reads := func() int { return g.disk.Acts().Reads }
	for _, at := range p.asked() {
		e, err, n := p.find(at)
		was := reads()
		if got, broken, e2 := x.Find(at); got != e || broken != 0 || e2 != err || reads()-was != n {
			t.Errorf("9.10: Find(%q): %v, %d, %d, %d Reads; not %v, %d, %d", at, got, broken, e2, reads()-was, e, err, n)
		}
		wantListAsMap(t, g, x, p, at)
		var want []byte
		switch {
		case at == "":
			err = api.ErrPath
		case err == api.OK && e.Dir:
			err = api.ErrDir
		case err == api.OK:
			want = []byte(p.files[at])
			n += p.sectors(at)
		}
		was = reads()
		if b, broken, e2 := x.Get(at); !bytes.Equal(b, want) || broken != 0 || e2 != err || reads()-was != n {
			t.Errorf("9.10: Get(%q): %q, %d, %d, %d Reads; not %q, %d, %d", at, b, broken, e2, reads()-was, want, err, n)
		}
		wantReading(t, g, x, at, want, 0, err, n)
	}
	wantLoopsAsMap(t, x, p)
}

func wantListAsMap(t *testing.T, g *ground, x *Tree, p plan, at string) {
	t.Helper()
	e, err, n := p.find(at)
	var want []api.Listed
	if err == api.OK && !e.Dir {
		err = api.ErrFile
	} else if err == api.OK {
		n += p.sectors(at)
		for _, name := range p.names(at) {
			text, file := p.files[joined(at, name)]
			want = append(want, api.Listed{Name: name, Dir: !file, Len: len(text)})
		}
	}
	was := g.disk.Acts().Reads
	l, broken, e2 := x.List(at)
	if did := g.disk.Acts().Reads - was; !slices.Equal(l, want) || broken != 0 || e2 != err || did != n {
		t.Errorf("9.10: List(%q): %v, %d, %d, %d Reads; not %v, %d, %d", at, l, broken, e2, did, want, err, n)
	}
}

func wantLoopsAsMap(t *testing.T, x *Tree, p plan) {
	t.Helper()
	var want []told
	var files []api.File
	for _, at := range p.paths() {
		want = append(want, told{at, p.entries[at]})
		if !p.entries[at].Dir {
			files = append(files, api.File{Path: at, Data: []byte(p.files[at])})
		}
	}
	if l := walked(x); !slices.Equal(l, want) {
		t.Errorf("9.10: Walk tells %v, not %v", l, want)
	}
	if l, broken, err := x.All(); !sameFiles(l, files) || broken != 0 || err != api.OK {
		t.Errorf("9.10: All: %v, %d, %d; not %v", l, broken, err, files)
	}
}

func Test9_10(t *testing.T) {
	r := rand.New(rand.NewSource(910))
	for range 60 {
		g := newGround(t, 600, 1+r.Intn(20))
		x, p := g.plant(t, randomFiles(r, 25))
		wantAsMap(t, g, x, p)
	}
}

// Of two trees with one key, wherever they lie, the same is told.
func Test9_11(t *testing.T) {
	r := rand.New(rand.NewSource(911))
	for range 20 {
		files := randomFiles(r, 15)
		g, h := newGround(t, 400, 10), newGround(t, 500, 33)
		h.put(t, []byte("lies ahead"))
		x, p := g.plant(t, files)
		y, _ := h.plant(t, files)
		if !Same(x, y) || x.Ref().First == y.Ref().First {
			t.Fatal("no two trees with one key")
		}
		for _, at := range p.asked() {
			e, _, err := x.Find(at)
			f, _, err2 := y.Find(at)
			if e.Name != f.Name || e.Dir != f.Dir || e.Key != f.Key || err != err2 {
				t.Errorf("Find(%q): %v, %d; %v, %d", at, e, err, f, err2)
			}
			b, _, err := x.Get(at)
			c, _, err2 := y.Get(at)
			if !bytes.Equal(b, c) || err != err2 {
				t.Errorf("Get(%q): %q, %d; %q, %d", at, b, err, c, err2)
			}
			l, _, err := x.List(at)
			m, _, err2 := y.List(at)
			if !slices.Equal(l, m) || err != err2 {
				t.Errorf("List(%q): %v, %d; %v, %d", at, l, err, m, err2)
			}
		}
		l, _, _ := x.All()
		m, _, _ := y.All()
		if !sameFiles(l, m) {
			t.Errorf("All: %v; %v", l, m)
		}
	}
}

// Whatever sector is spoilt: what is told is what was written, or an error.
func Test9_11Spoilt(t *testing.T) {
	r := rand.New(rand.NewSource(9111))
	for range 10 {
		g := newGround(t, 400, 10)
		x, p := g.plant(t, randomFiles(r, 12))
		for _, ref := range g.store.Refs() {
			for _, n := range g.store.Sectors(ref) {
				bit := r.Intn(4096)
				g.disk.Turn(n, bit)
				wantAsPlain(t, g, x, p.paths())
				for at, text := range p.files {
					if b, broken, err := x.Get(at); err == api.OK && string(b) != text || err != api.OK && (err != api.ErrBroken || broken != n) {
						t.Errorf("Get(%q): %q, %d, %d; %d is broken", at, b, broken, err, n)
					}
				}
				g.disk.Turn(n, bit)
			}
		}
		wantAsMap(t, g, x, p)
	}
}

// Directories and files that are not what their entries say.
func Test9_11Lies(t *testing.T) {
	r := rand.New(rand.NewSource(9112))
	for range 150 {
		g := newGround(t, 1500, 1+r.Intn(10))
		paths := []string{"", "/", "nobody"}
		x := g.rooted(t, g.lie(t, r, 2, &paths, "", ""))
		for _, at := range paths[3:] {
			paths = append(paths, at+"/a", at+"/nobody")
		}
		wantAsPlain(t, g, x, paths)
	}
}

// A reading goes on as it began, whatever else is done between its Steps, as long as what lies on its way stays.
func Test9_12(t *testing.T) {
	g, x, sectors, text := wide(t)
	var beside []api.Ref
	r, _ := x.Reading("a/b")
	for i := range sectors {
		beside = append(beside, g.put(t, []byte(fmt.Sprint("new ", i))))
		if i%3 == 2 {
			g.store.Drop(beside[0])
			g.store.Sweep()
			beside = beside[1:]
		}
		if e, _, err := x.Find("f5"); err == api.OK {
			g.turn(t, e.Ref.First)
		}
		x.All()
		g.plant(t, map[string]string{"a/b": fmt.Sprint(i)})
		g.disk.Flush()
		if ended, err := r.Step(); ended != (i == len(sectors)-1) || err != api.OK {
			t.Fatalf("Step %d: %t, %d", i, ended, err)
		}
	}
	if string(r.Bytes()) != text {
		t.Errorf("%q", r.Bytes())
	}
	// What lies there is told, known or not, till it is written over.
	for _, ref := range g.store.Refs() {
		for g.store.Drop(ref) == api.OK {
		}
	}
	wantGot(t, x, "a/b", text)
}

func Test9_12Chance(t *testing.T) {
	r := rand.New(rand.NewSource(912))
	for range 30 {
		g := newGround(t, 3000, 10)
		x, p := g.plant(t, randomFiles(r, 15))
		asked := p.asked()
		type going struct {
			at string
			r  *Reading
		}
		var open []going
		for range 200 {
			if r.Intn(4) == 0 {
				at := asked[r.Intn(len(asked))]
				if y, err := x.Reading(at); err == api.OK {
					open = append(open, going{at, y})
				}
			}
			if r.Intn(5) == 0 {
				g.put(t, []byte(randomText(r)))
			}
			if len(open) == 0 {
				continue
			}
			i := r.Intn(len(open))
			ended, err := open[i].r.Step()
			if !ended && err != api.OK {
				t.Fatalf("%q: %d", open[i].at, err)
			}
			if ended {
				b, broken, want := x.Get(open[i].at)
				if err != want || !bytes.Equal(open[i].r.Bytes(), b) || open[i].r.Broken() != broken {
					t.Errorf("%q: %q, %d, %d; not %q, %d, %d", open[i].at, open[i].r.Bytes(), open[i].r.Broken(), err, b, broken, want)
				}
				open = slices.Delete(open, i, i+1)
			}
		}
	}
}

// Answers are new memory: whatever is done to them, the next ones are the same.
func Test9_13New(t *testing.T) {
	g, x, _, text := wide(t)
	spoil := func(b []byte) {
		b = b[:cap(b)]
		for i := range b {
			b[i] = 0xee
		}
	}
	b, _, _ := x.Get("a/b")
	spoil(b)
	wantGot(t, x, "a/b", text)
	r, _ := x.Reading("a/b")
	for ended := false; !ended; {
		ended, _ = r.Step()
	}
	b, c := r.Bytes(), r.Bytes()
	spoil(b)
	if string(c) != text || string(r.Bytes()) != text {
		t.Error("a reading's bytes are shared")
	}
	l, _, _ := x.List("")
	m, _, _ := x.List("")
	want := slices.Clone(m)
	clear(l[:cap(l)])
	if n, _, _ := x.List(""); !slices.Equal(m, want) || !slices.Equal(n, want) {
		t.Error("a list is shared")
	}
	wantApart(t, x)
	wantAsPlain(t, g, x, []string{"a", "a/b", "f0"})
}

// wantApart: no two lists of All's answer share any memory, spare room too.
func wantApart(t *testing.T, x *Tree) {
	t.Helper()
	all, _, _ := x.All()
	for i, f := range all {
		room := f.Data[:cap(f.Data)]
		for k := range room {
			room[k] = byte(i)
		}
	}
	for i, f := range all {
		for _, c := range f.Data[:cap(f.Data)] {
			if c != byte(i) {
				t.Fatalf("%q shares its bytes", f.Path)
			}
		}
	}
	clear(all[:cap(all)])
	if again, _, err := x.All(); err != api.OK || len(again) != len(all) || again[0].Path == "" {
		t.Error("the files are shared")
	}
}

// A path that is handed in is not kept.
func Test9_13Lent(t *testing.T) {
	_, x, p := example(t)
	lent := []byte("a/b")
	r, err := x.Reading(unsafe.String(&lent[0], len(lent)))
	if err != api.OK {
		t.Fatal(err)
	}
	for range 2 {
		copy(lent, "c/d")
		r.Step()
	}
	if ended, err := r.Step(); !ended || err != api.OK || string(r.Bytes()) != "x" {
		t.Errorf("%t, %d, %q", ended, err, r.Bytes())
	}
	copy(lent, "a/b")
	e, _, _ := x.Find(unsafe.String(&lent[0], len(lent)))
	copy(lent, "c/d")
	if e != p.entries["a/b"] {
		t.Errorf("%v", e)
	}
}

// Nothing but Reads is done, and the store's account stays.
func Test9_13Account(t *testing.T) {
	g := newGround(t, 300, 10)
	x, p := g.plant(t, map[string]string{"a/b": "1", "a/c/d": strings.Repeat("2", 600), "e": "3"})
	g.store.Drop(p.entries["e"].Ref)
	was, image, refs := g.disk.Acts(), g.disk.Image(), g.store.Refs()
	held, spent, free := g.store.Held(), g.store.Spent(), g.space.Free()
	var uses []int
	for _, ref := range refs {
		uses = append(uses, g.store.Uses(ref))
	}
	for _, at := range p.asked() {
		x.Find(at)
		x.Get(at)
		x.List(at)
		finished(t, x, at)
		if r, err := x.Reading(at); err == api.OK {
			r.Step() // and it is left
		}
	}
	walked(x)
	x.All()
	is := g.disk.Acts()
	if is.Writes != was.Writes || is.Flushes != was.Flushes || is.Reads == was.Reads {
		t.Errorf("%v, then %v", was, is)
	}
	if !slices.EqualFunc(g.disk.Image(), image, bytes.Equal) || !slices.Equal(g.store.Refs(), refs) {
		t.Error("the disk, or what is known, has changed")
	}
	if g.store.Held() != held || g.store.Spent() != spent || g.space.Free() != free {
		t.Errorf("%d, %d, %d; not %d, %d, %d", g.store.Held(), g.store.Spent(), g.space.Free(), held, spent, free)
	}
	for i, ref := range refs {
		if g.store.Uses(ref) != uses[i] {
			t.Errorf("%v has %d uses, not %d", ref, g.store.Uses(ref), uses[i])
		}
	}
}

// A tree whose directories share their nodes has more paths than anyone can go through: what is asked of it ends all the same, and a walk is left.
func Test9_13Shared(t *testing.T) {
	g := newGround(t, 5000, 10)
	e := g.file(t, "f", "x")
	for range 15 {
		var in []api.Entry
		for i := range 200 {
			e.Name = fmt.Sprint("n", i)
			in = append(in, e)
		}
		e = g.dir(t, "", in...)
	}
	x := g.rooted(t, e)
	at := strings.Repeat("n7/", 14) + "n7"
	wantGot(t, x, at, "x")
	wantReading(t, g, x, at, []byte("x"), 0, api.OK, 15*chain.Sectors(e.Ref.Len)+1)
	n := 0
	for range x.Walk() {
		if n++; n == 1000 {
			break
		}
	}
	if n != 1000 {
		t.Errorf("%d are told", n)
	}
}

// Bytes by chance for a node: nothing panics, and what is told is what the chapter says.
func Test9_13Chance(t *testing.T) {
	r := rand.New(rand.NewSource(913))
	for range 300 {
		g := newGround(t, 60, 1+r.Intn(20))
		in := []api.Entry{g.file(t, "a", "1"), g.file(t, "b", "2")}
		sound, _ := node.Encode(in)
		key, _ := node.KeyOf(in)
		b := slices.Clone(sound)
		for range r.Intn(3) {
			b[r.Intn(len(b))] = byte(r.Intn(256))
		}
		b = b[:len(b)-r.Intn(2)*r.Intn(len(b))]
		ref := g.put(t, b)
		x := g.rooted(t, api.Entry{Key: key, Ref: ref})
		wantAsPlain(t, g, x, []string{"a", "b", "c", "a/b", ""})
	}
}
