package stage

import (
	"bytes"
	"fmt"
	"math"
	"math/rand"
	"slices"
	"strings"
	"testing"
	"unsafe"

	"kiln/api"
	"kiln/chain"
	"kiln/node"
	"kiln/store"
	"kiln/tree"
)

// far: numbers outside everything, and such as come back inside if a width or a sign is lost.
var far = []int{math.MinInt, -1 << 32, -1<<32 + 10, -65536, -1, 1 << 32, 1<<32 + 10, 1<<40 + 10, math.MaxInt}

// example: a stage over the tree of the chapter's examples.
func example(t *testing.T) (*ground, *Stage, api.Entry, plain, map[string]oldDir) {
	t.Helper()
	g := newGround(t, 60, 10)
	root, p, old := g.texts(t, map[string]string{"a/b": "x", "c": ""})
	return g, g.staged(t, root), root, p, old
}

func wantSet(t *testing.T, s *Stage, at string, ref api.Ref, want api.Errno) {
	t.Helper()
	if err := s.Set(at, ref); err != want {
		t.Errorf("Set(%q, %v): %d, not %d", at, ref, err, want)
	}
}

func wantErased(t *testing.T, s *Stage, at string, want api.Errno) {
	t.Helper()
	if err := s.Erase(at); err != want {
		t.Errorf("Erase(%q): %d, not %d", at, err, want)
	}
}

func wantKept(t *testing.T, s *Stage, want api.Errno, paths ...string) {
	t.Helper()
	if err := s.Keep(paths...); err != want {
		t.Errorf("Keep(%q): %d, not %d", paths, err, want)
	}
}

func wantPaths(t *testing.T, s *Stage, want ...string) {
	t.Helper()
	if l := s.Paths(); !slices.Equal(l, want) {
		t.Errorf("Paths: %q, not %q", l, want)
	}
}

func wantListed(t *testing.T, s *Stage, at string, want ...api.Listed) {
	t.Helper()
	if l, err := s.List(at); !slices.Equal(l, want) || err != api.OK {
		t.Errorf("List(%q): %v, %d; not %v", at, l, err, want)
	}
}

func wantNotListed(t *testing.T, s *Stage, at string, want api.Errno) {
	t.Helper()
	if l, err := s.List(at); len(l) != 0 || err != want {
		t.Errorf("List(%q): %v, %d; not %d", at, l, err, want)
	}
}

// wantStep holds a Step to what it tells, and to how many Reads and Writes it does.
func wantStep(t *testing.T, g *ground, m *Merge, reads, writes int, ended bool, want api.Errno) {
	t.Helper()
	was := g.disk.Acts()
	was.Reads += reads
	was.Writes += writes
	if e, err := m.Step(); e != ended || err != want || g.disk.Acts() != was {
		t.Fatalf("Step: %t, %d, acts %v; not %t, %d, acts %v", e, err, g.disk.Acts(), ended, want, was)
	}
}

// wantNothing: a merge that has not ended OK tells nothing.
func wantNothing(t *testing.T, m *Merge) {
	t.Helper()
	if m.Key() != (api.Key{}) || m.Ref() != (api.Ref{}) || len(m.Refs()) != 0 {
		t.Errorf("it has not ended OK: %x, %v, %v", m.Key(), m.Ref(), m.Refs())
	}
}

// finished steps a merge to its end, which must be OK: its root.
func finished(t *testing.T, m *Merge) api.Entry {
	t.Helper()
	for ended := false; !ended; {
		wantNothing(t, m)
		var err api.Errno
		if ended, err = m.Step(); err != api.OK {
			t.Fatalf("Step: %d", err)
		}
	}
	return api.Entry{Dir: true, Key: m.Key(), Ref: m.Ref()}
}

// wantTree: what lies there is a tree of just this map.
func wantTree(t *testing.T, g *ground, root api.Entry, p plain) {
	t.Helper()
	x, err := tree.New(g.store, root.Key, root.Ref)
	if err != api.OK {
		t.Fatal(err)
	}
	got := plain{}
	for at, e := range x.Walk() {
		if !e.Dir {
			got[at] = e.Ref
		}
	}
	if !slices.Equal(got.paths(), p.paths()) {
		t.Fatalf("the tree has %q, not %q", got.paths(), p.paths())
	}
	for at, ref := range p {
		if got[at] != ref {
			t.Fatalf("%q: %v, not %v", at, got[at], ref)
		}
	}
	if _, _, err := x.List(""); err != api.OK || root.Key != p.key("") {
		t.Fatalf("the root: %d, key %x, not %x", err, root.Key, p.key(""))
	}
}

func TestExamples(t *testing.T) {
	g, s, root, p, _ := example(t)
	r := p["a/b"]
	wantSet(t, s, "a", r, api.ErrDir)
	wantSet(t, s, "c/d", r, api.ErrFile)
	wantSet(t, s, "a/", r, api.ErrPath)
	wantErased(t, s, "a", api.ErrDir)
	wantErased(t, s, "x", api.ErrAbsent)
	wantErased(t, s, "c/x", api.ErrFile)
	wantAsPlain(t, g, s, p, p.asked())
	wantKept(t, s, api.OK, "c", "x")
	wantPaths(t, s, "c")
	wantNotListed(t, s, "a", api.ErrAbsent)
	wantListed(t, s, "", api.Listed{Name: "c"})
	wantSet(t, s, "a/b", r, api.OK)
	if s.Key() != root.Key {
		t.Errorf("Key: %x, not %x", s.Key(), root.Key)
	}
}

func wantRefused(t *testing.T, st *store.Store, root api.Entry, want api.Errno) {
	t.Helper()
	if s, err := New(st, root.Key, root.Ref); s != nil || err != want {
		t.Errorf("New(%x, %v): %v, %d; not %d", root.Key[:2], root.Ref, s, err, want)
	}
}

// Test10_1: all directories are read, each once, and no file.
func Test10_1(t *testing.T) {
	g := newGround(t, 200, 10)
	long := map[string]string{}
	for i := range 30 {
		long[fmt.Sprintf("long/%s%02d", strings.Repeat("n", 60), i)] = "n"
	}
	for at, text := range map[string]string{"a": "1", "a.b": "2", "b/a": "3", "b/c/d/e": strings.Repeat("5", 1000), "b.c/d": "6", "c": "", strings.Repeat("d/", 15) + "d": "7"} {
		long[at] = text
	}
	root, p, old := g.texts(t, long)
	for _, ref := range p {
		g.turn(t, ref.First) // one that is read would be broken
	}
	sectors := 0
	for _, d := range old {
		sectors += chain.Sectors(d.ref.Len)
	}
	was := g.account()
	s := g.staged(t, root)
	is := g.account()
	if !is.same(was) || is.acts.Reads != was.acts.Reads+sectors || is.acts.Writes != was.acts.Writes || is.acts.Flushes != was.acts.Flushes {
		t.Errorf("acts %v, then %v; the nodes have %d sectors", was.acts, is.acts, sectors)
	}
	wantAsPlain(t, g, s, p, p.asked())
	for _, files := range []plain{{}, {"a": p["a"]}} {
		root, _ := g.plant(t, files)
		acts := g.disk.Acts()
		s := g.staged(t, root)
		if n := g.disk.Acts().Reads - acts.Reads; n != 1 {
			t.Errorf("%d Reads of the root alone", n)
		}
		wantAsPlain(t, g, s, files, []string{"", "a", "b"})
	}
}

// Test10_1Unknown: what lies there need not be known to the store, and refs of files may lead nowhere.
func Test10_1Unknown(t *testing.T) {
	g := newGround(t, 60, 10)
	p := plain{"a/b": {Hash: api.Key{1}, First: 65535, Len: 262144}, "c": {}}
	root, _ := g.plant(t, p)
	for _, ref := range g.store.Refs() {
		g.store.Undo(ref)
	}
	s := g.staged(t, root)
	wantAsPlain(t, g, s, p, p.asked())
	if len(g.store.Refs()) != 0 {
		t.Errorf("known: %v", g.store.Refs())
	}
}

func Test10_1Refused(t *testing.T) {
	g := newGround(t, 200, 10)
	wantRefused(t, nil, api.Entry{}, api.ErrArg)
	root, p, _ := g.texts(t, map[string]string{"a/b": "1", "c/d/e": "2", "f": "3"})
	for _, n := range append([]int{1048577}, far...) {
		e := root
		e.Ref.Len = n
		wantRefused(t, g.store, e, api.ErrLong)
		e.Ref.First = n
		wantRefused(t, g.store, e, api.ErrLong)
	}
	for _, n := range append([]int{0, 9, 200, 65536, root.Ref.First - 1}, far...) {
		e := root
		e.Ref.First = n
		wantRefused(t, g.store, e, api.ErrBroken)
	}
	for _, spoil := range []func(e *api.Entry){
		func(e *api.Entry) { e.Ref.Len++ },
		func(e *api.Entry) { e.Ref.Hash[0]++ },
		func(e *api.Entry) { e.Ref.Hash[31]++ },
		func(e *api.Entry) { e.Key[31]++ },
		func(e *api.Entry) { e.Ref = p["f"] }, // a file's bytes
		func(e *api.Entry) { *e = g.dir(t, "", g.dir(t, "a")) },
		func(e *api.Entry) { *e = g.dir(t, "", g.dir(t, "a", g.dir(t, "b"))) },
	} {
		e := root
		spoil(&e)
		wantRefused(t, g.store, e, api.ErrBroken)
		wantRefused(t, g.store, g.dir(t, "", named(e, "sub")), api.ErrBroken)
	}
	for _, key := range []api.Key{{}, p["f"].Hash, root.Ref.Hash, plain{}.key("")} { // the last one: that of no entries
		for _, ref := range []api.Ref{root.Ref, p["f"], g.put(t, nil), g.put(t, []byte{1}), g.put(t, []byte{1, 0, 0})} {
			wantRefused(t, g.store, api.Entry{Key: key, Ref: ref}, api.ErrBroken)
		}
	}
}

// Test10_1Deep: a name that makes no path of its directory's breaks that directory.
func Test10_1Deep(t *testing.T) {
	g := newGround(t, 200, 10)
	f := g.file(t, "f", "x")
	for deep := 1; deep <= 18; deep++ {
		e := f
		for range deep - 1 {
			e = g.dir(t, "d", e)
		}
		if root := g.dir(t, "", e); deep <= 16 {
			wantPaths(t, g.staged(t, root), strings.Repeat("d/", deep-1)+"f")
		} else {
			wantRefused(t, g.store, root, api.ErrBroken)
		}
	}
	long := strings.Repeat("l", 63)
	for n := 60; n <= 64; n++ {
		e := g.file(t, strings.Repeat("n", n), "x")
		for range 3 {
			e = g.dir(t, long, e)
		}
		if root := g.dir(t, "", e); n <= 63 {
			g.staged(t, root)
		} else {
			wantRefused(t, g.store, root, api.ErrBroken) // 256 bytes
		}
	}
}

// Test10_1Order: a directory ahead of those in it, these in the order of their names; what comes behind the first broken one is not read.
func Test10_1Order(t *testing.T) {
	dirs := []string{"", "a", "a/x", "a/x/y", "a/z", "a.b", "b", "b/c"} // in the order of paths
	for i, broken := range dirs {
		g := newGround(t, 100, 10)
		root, _, old := g.texts(t, map[string]string{"a/x/y/f": "1", "a/x/g": "2", "a/z/f": "3", "a.b/f": "4", "b/c/f": "5", "0": "6", "zz": "7"})
		g.turn(t, old[broken].ref.First)
		was := g.disk.Acts()
		wantRefused(t, g.store, root, api.ErrBroken)
		reads := 0
		for _, d := range dirs[:i] {
			reads += chain.Sectors(old[d].ref.Len)
		}
		if n := g.disk.Acts().Reads - was.Reads; n != reads+1 {
			t.Errorf("%q is broken: %d Reads, not %d", broken, n, reads+1)
		}
	}
}

// named: the entry with another name.
func named(e api.Entry, name string) api.Entry {
	e.Name = name
	return e
}

// Test10_2: what a path may get, and what it has then.
func Test10_2(t *testing.T) {
	g, s, _, p, _ := example(t)
	for _, x := range []struct {
		at  string
		ref api.Ref
	}{
		{"a/b", p["c"]}, {"a/b", p["a/b"]}, {"c", p["a/b"]}, {"d", p["c"]}, {"a/c", p["c"]}, {"e/f/g", p["a/b"]}, {"e/f/g", p["a/b"]},
		{"ab", api.Ref{}}, {"a.b", api.Ref{First: 65535, Len: 262144}}, {"a-b", api.Ref{Hash: api.Key{9}, First: 1, Len: 1}},
		{strings.Repeat("d.d/", 15) + "d", p["c"]}, {strings.Repeat("n", 64), p["c"]}, {strings.Repeat("abc/", 15) + strings.Repeat("n", 64), p["c"]},
		{strings.Repeat("long-long-long-/", 15) + "long-long-long-", p["c"]}, // 255 bytes
	} {
		if want := p.set(x.at, x.ref); want != api.OK {
			t.Fatalf("%q: %d", x.at, want)
		}
		was := g.account()
		wantSet(t, s, x.at, x.ref, api.OK)
		if !g.account().equal(was) {
			t.Errorf("Set(%q) did something to the store", x.at)
		}
		wantAsPlain(t, g, s, p, p.asked())
	}
}

func Test10_2Refused(t *testing.T) {
	g, s, _, p, _ := example(t)
	r := p["c"]
	asked := p.asked()
	refused := func(at string, ref api.Ref, want api.Errno) {
		t.Helper()
		wantSet(t, s, at, ref, want)
		wantAsPlain(t, g, s, p, asked)
	}
	for _, at := range []string{"", "/", ".", "..", "a/", "/a", "c//d", "c/.", "c/..", "a/../c", "a b", "é", "a\x00", strings.Repeat("n", 65), strings.Repeat("d/", 16) + "d", strings.Repeat("long-long-long-/", 15) + "long-long-long-1"} {
		refused(at, r, api.ErrPath)
		refused(at, api.Ref{First: -1}, api.ErrPath)
	}
	for _, at := range []string{"new", "a/b", "a", "c/d", "c"} {
		for _, n := range append([]int{65536, 65537, 131072}, far...) {
			refused(at, api.Ref{First: n}, api.ErrRef)
			refused(at, api.Ref{First: n, Len: 1}, api.ErrRef)
		}
		for _, n := range append([]int{262145, 1048576, 1 << 31}, far...) {
			refused(at, api.Ref{Len: n}, api.ErrRef)
			refused(at, api.Ref{First: 9, Len: n}, api.ErrRef)
		}
	}
	for _, at := range []string{"c/d", "c/d/e", "c/c", "a/b/c", "a/b/c/d/e/f"} {
		refused(at, r, api.ErrFile)
	}
	refused("a", r, api.ErrDir)
	wantSet(t, s, "d/e/f", r, p.set("d/e/f", r))
	refused("d", r, api.ErrDir)
	refused("d/e", r, api.ErrDir)
	refused("d/e/f/g", r, api.ErrFile)
}

// full: a stage with as many names in a directory as there may be, made by Set; the last of them is a directory.
func full(t *testing.T, s *Stage, p plain, dir string, ref api.Ref) {
	t.Helper()
	for i := len(p.names(dir)); i < 1023; i++ {
		at := joined(dir, fmt.Sprintf("n%d", i))
		p[at] = ref
		wantSet(t, s, at, ref, api.OK)
	}
	at := joined(dir, "sub/f")
	p[at] = ref
	wantSet(t, s, at, ref, api.OK)
}

// Test10_2Many: no directory gets a 1025th name, by a file or by a directory; what is there already may be set.
func Test10_2Many(t *testing.T) {
	for _, dir := range []string{"", "d", "d/e/f"} {
		g, s, _, p, _ := example(t)
		r := p["a/b"]
		full(t, s, p, dir, p["c"])
		for _, at := range []string{"new", "new/sub", "new/a/b/c", "zz", "0"} {
			wantSet(t, s, joined(dir, at), r, api.ErrMany)
			if _, err := s.Find(joined(dir, at)); err != api.ErrAbsent {
				t.Errorf("Find(%q): %d", joined(dir, at), err)
			}
			wantNotListed(t, s, joined(dir, "new"), api.ErrAbsent)
		}
		wantSet(t, s, joined(dir, "sub"), r, api.ErrDir)
		wantSet(t, s, joined(dir, "n500/x"), r, api.ErrFile)
		wantSet(t, s, joined(dir, "new"), api.Ref{First: -1}, api.ErrRef)
		for _, at := range []string{"sub/g", "sub/h/i", "n500", "n1000", "sub/f"} { // none of them is a name more
			p[joined(dir, at)] = r
			wantSet(t, s, joined(dir, at), r, api.OK)
		}
		if dir != "" {
			p["other/new"] = r
			wantSet(t, s, "other/new", r, api.OK)
		}
		delete(p, joined(dir, "n500"))
		wantErased(t, s, joined(dir, "n500"), api.OK)
		p[joined(dir, "new/sub")] = r
		wantSet(t, s, joined(dir, "new/sub"), r, api.OK)
		wantSet(t, s, joined(dir, "n500"), r, api.ErrMany)
		wantAsPlain(t, g, s, p, []string{"", dir, joined(dir, "new"), joined(dir, "sub"), joined(dir, "n500"), joined(dir, "n1")})
	}
}

// Test10_2ManyRead: a directory that was read counts as one that was set.
func Test10_2ManyRead(t *testing.T) {
	g := newGround(t, 600, 10)
	f := g.put(t, []byte("x"))
	p := plain{}
	for i := range 1024 {
		p[fmt.Sprintf("d/n%d", i)] = f
	}
	root, _ := g.plant(t, p)
	s := g.staged(t, root)
	wantSet(t, s, "d/new", f, api.ErrMany)
	wantSet(t, s, "d/n0/new", f, api.ErrFile)
	wantSet(t, s, "d/n0", f, api.OK)
	wantErased(t, s, "d/n0", api.OK)
	wantSet(t, s, "d/new", f, api.OK)
	wantSet(t, s, "d/n0", f, api.ErrMany)
	end := finished(t, s.Merge()) // a node of 1024 names is written
	delete(p, "d/n0")
	p["d/new"] = f
	wantTree(t, g, end, p)
}

// Test10_3: what is erased is away, and so are the directories that begin no path any more.
func Test10_3(t *testing.T) {
	g := newGround(t, 100, 10)
	root, p, _ := g.texts(t, map[string]string{"a/b/c/d": "1", "a/b/e": "2", "a/f": "3", "a.b": "4", "g/h": "5"})
	s := g.staged(t, root)
	for _, x := range []struct {
		at     string
		gone   []string // directories
		stands []string
	}{
		{"a/b/c/d", []string{"a/b/c"}, []string{"a/b", "a", "g"}},
		{"a/b/e", []string{"a/b"}, []string{"a"}},
		{"g/h", []string{"g"}, []string{"a"}},
		{"a.b", nil, []string{"a"}},
		{"a/f", []string{"a"}, []string{""}},
	} {
		for _, at := range p.asked() {
			if _, err := p.find(at); err == api.OK {
				continue
			} else {
				wantErased(t, s, at, err)
			}
		}
		was := g.account()
		wantErased(t, s, x.at, api.OK)
		if !g.account().equal(was) {
			t.Errorf("Erase(%q) did something to the store", x.at)
		}
		p.erase(x.at)
		wantErased(t, s, x.at, api.ErrAbsent)
		for _, at := range x.gone {
			wantNotListed(t, s, at, api.ErrAbsent)
			wantErased(t, s, at, api.ErrAbsent)
		}
		for _, at := range x.stands {
			if _, err := s.List(at); err != api.OK {
				t.Errorf("List(%q): %d", at, err)
			}
		}
		wantAsPlain(t, g, s, p, append(p.asked(), x.at))
	}
	wantListed(t, s, "")
	wantPaths(t, s)
	wantErased(t, s, "", api.ErrPath)
	// Where a directory was there may be a file, and where a file was a directory.
	r := api.Ref{First: 1}
	wantSet(t, s, "a", r, api.OK)
	wantSet(t, s, "a.b/c", r, api.OK)
	wantSet(t, s, "g/h/i", r, api.OK)
	wantPaths(t, s, "a", "a.b/c", "g/h/i")
}

func Test10_3Keep(t *testing.T) {
	files := map[string]string{"a/b/c/d": "1", "a/b/e": "2", "a/f": "3", "a.b": "4", "g/h": "5"}
	all := []string{"a/b/c/d", "a/b/e", "a/f", "a.b", "g/h"}
	for _, x := range []struct {
		paths, want []string
	}{
		{nil, nil},
		{all, all},
		{[]string{"g/h", "a.b", "a/f", "a/b/e", "a/b/c/d", "a.b"}, all},
		{[]string{"a.b"}, []string{"a.b"}},
		{[]string{"a", "a/b", "g", "g/h/i", "A.B", "x"}, nil}, // directories are none of the map's paths
		{[]string{"a/b", "a/b/e"}, []string{"a/b/e"}},
		{[]string{"g/h", "a/b/c/d"}, []string{"a/b/c/d", "g/h"}},
	} {
		g := newGround(t, 100, 10)
		root, p, _ := g.texts(t, files)
		s := g.staged(t, root)
		asked := p.asked()
		for _, wrong := range []string{"", "a/", "a b", "..", strings.Repeat("n", 65)} {
			for i := range len(x.paths) + 1 {
				wantKept(t, s, api.ErrPath, slices.Insert(slices.Clone(x.paths), i, wrong)...)
			}
		}
		wantAsPlain(t, g, s, p, asked)
		was, given := g.account(), slices.Clone(x.paths)
		wantKept(t, s, api.OK, given...)
		if !g.account().equal(was) || !slices.Equal(given, x.paths) {
			t.Errorf("Keep(%q) did something else", x.paths)
		}
		p.keep(x.paths...)
		wantPaths(t, s, x.want...)
		wantAsPlain(t, g, s, p, asked)
	}
}

// Test10_4: what is told of files, whole and not, and of directories.
func Test10_4(t *testing.T) {
	g := newGround(t, 100, 10)
	root, p, _ := g.texts(t, map[string]string{"a": "1", "b/a": strings.Repeat("2", 1500), "b/b/c": "", "b.c/d": "4", "b-/e": "5", "Z": "6"})
	s := g.staged(t, root)
	wantPaths(t, s, "Z", "a", "b/a", "b/b/c", "b-/e", "b.c/d")
	wantListed(t, s, "", api.Listed{Name: "Z", Len: 1}, api.Listed{Name: "a", Len: 1}, api.Listed{Name: "b", Dir: true}, api.Listed{Name: "b-", Dir: true}, api.Listed{Name: "b.c", Dir: true})
	wantListed(t, s, "b", api.Listed{Name: "a", Len: 1500}, api.Listed{Name: "b", Dir: true})
	wantListed(t, s, "b/b", api.Listed{Name: "c"})
	for at, want := range map[string]api.Errno{"b/a": api.ErrFile, "b/a/x": api.ErrFile, "b/c": api.ErrAbsent, "b/b/c": api.ErrFile, "/": api.ErrPath, "b/": api.ErrPath, "a/..": api.ErrPath, "bb": api.ErrAbsent, "b/b/c/d/e": api.ErrFile, "x/y": api.ErrAbsent} {
		wantNotListed(t, s, at, want)
	}
	was := g.disk.Acts()
	if b, err := s.Read("b/a"); string(b) != strings.Repeat("2", 1500) || err != api.OK || g.disk.Acts().Reads != was.Reads+4 {
		t.Errorf("Read: %d bytes, %d, %d Reads", len(b), err, g.disk.Acts().Reads-was.Reads)
	}
	acts := g.disk.Acts()
	for _, at := range p.asked() {
		s.Find(at)
		s.List(at)
	}
	if s.Paths(); s.Key() != root.Key || g.disk.Acts() != acts {
		t.Error("Find, List, Paths or Key did an act")
	}
	g.turn(t, p["b/a"].First+1)
	if b, err := s.Read("b/a"); len(b) != 0 || err != api.ErrBroken {
		t.Errorf("Read of what is broken: %d bytes, %d", len(b), err)
	}
	wantSet(t, s, "lost", api.Ref{Hash: api.Key{1}, First: 99, Len: 5}, api.OK)
	wantSet(t, s, "nowhere", api.Ref{First: 65535}, api.OK)
	for _, at := range []string{"lost", "nowhere"} {
		if b, err := s.Read(at); len(b) != 0 || err != api.ErrBroken {
			t.Errorf("Read(%q): %d bytes, %d", at, len(b), err)
		}
	}
	if l, err := s.List(""); len(l) != 7 || l[5] != (api.Listed{Name: "lost", Len: 5}) || err != api.OK {
		t.Errorf("List: %v, %d", l, err)
	}
}

// Test10_5: one act a Step; directories behind those in them, the root last, those that are as they were without an act.
func Test10_5(t *testing.T) {
	g, s, root, p, old := example(t)
	for _, at := range []string{"d/e", "f/g/h", "f/i"} {
		wantSet(t, s, at, p["a/b"], p.set(at, p["a/b"]))
	}
	for i := range 30 {
		at := fmt.Sprintf("f/%s%02d", strings.Repeat("n", 62), i) // f's node: 2 + 30 * 138 + 2 * 75 bytes, 9 sectors
		wantSet(t, s, at, p["c"], p.set(at, p["c"]))
	}
	first := 10 + g.store.Held() // the lowest that is free
	m := s.Merge()
	wantNothing(t, m)
	wantStep(t, g, m, 0, 1, false, api.OK) // a is as it was; d
	if g.store.Uses(old["a"].ref) != 2 {
		t.Errorf("%d uses of a", g.store.Uses(old["a"].ref))
	}
	wantStep(t, g, m, 0, 1, false, api.OK) // f/g
	for range 9 {                          // f
		wantStep(t, g, m, 0, 1, false, api.OK)
		wantNothing(t, m)
	}
	wantStep(t, g, m, 0, 1, true, api.OK) // the root
	l := m.Refs()
	if len(l) != 5 || l[0] != old["a"].ref || l[1].First != first || l[2].First != first+1 || l[3].First != first+2 || l[4].First != first+11 {
		t.Fatalf("Refs: %v", l)
	}
	if m.Key() != p.key("") || m.Ref() != l[4] {
		t.Errorf("Key and Ref: %x, %v", m.Key(), m.Ref())
	}
	for i, want := range []int{2, 1, 1, 1, 1} {
		if n := g.store.Uses(l[i]); n != want {
			t.Errorf("%d uses of %v, not %d", n, l[i], want)
		}
	}
	if g.store.Uses(root.Ref) != 1 {
		t.Errorf("%d uses of the old root", g.store.Uses(root.Ref))
	}
	for range 2 {
		wantStep(t, g, m, 0, 0, true, api.OK)
	}
	wantTree(t, g, api.Entry{Dir: true, Key: m.Key(), Ref: m.Ref()}, p)
}

// Test10_5Now: what is set or erased behind Merge is not in it.
func Test10_5Now(t *testing.T) {
	g, s, _, p, _ := example(t)
	r := p["a/b"]
	wantSet(t, s, "d/e", r, p.set("d/e", r))
	m := s.Merge()
	then := plain{}
	for at, ref := range p {
		then[at] = ref
	}
	change := []func(){
		func() { wantSet(t, s, "d/e", p["c"], p.set("d/e", p["c"])) },
		func() { wantErased(t, s, "a/b", p.erase("a/b")) },
		func() { wantKept(t, s, api.OK); p.keep() },
		func() { wantSet(t, s, "c", r, p.set("c", r)) },
		func() { wantSet(t, s, "a/b/c", r, p.set("a/b/c", r)) },
	}
	for i, ended := 0, false; !ended; i++ {
		change[i%len(change)]()
		ended, _ = m.Step()
	}
	for _, f := range change {
		f()
	}
	wantTree(t, g, api.Entry{Key: m.Key(), Ref: m.Ref()}, then)
	wantTree(t, g, finished(t, s.Merge()), p)
	if m.Key() != then.key("") {
		t.Error("the first merge's key is another")
	}
}

// Test10_5Behind: behind an act the Step stops, though no directory that is left needs one.
func Test10_5Behind(t *testing.T) {
	g, s, root, _, old := example(t)
	a := old["a"].ref
	g.store.Undo(a) // its sector is free, and the lowest: the node is written to where it lay
	m := s.Merge()
	wantStep(t, g, m, 0, 1, false, api.OK)
	wantNothing(t, m)
	if g.store.Uses(root.Ref) != 1 {
		t.Error("the root is used already")
	}
	wantStep(t, g, m, 0, 0, true, api.OK)
	if m.Ref() != root.Ref || !slices.Equal(m.Refs(), []api.Ref{a, root.Ref}) || g.store.Uses(a) != 1 || g.store.Uses(root.Ref) != 2 {
		t.Errorf("Refs: %v", m.Refs())
	}
}

// Test10_5Unknown: a node that is not known is put, though nothing in its directory is another; and then so is what it is in.
func Test10_5Unknown(t *testing.T) {
	g, s, root, p, old := example(t)
	g.store.Drop(old["a"].ref) // spent, so that its sector is not taken again
	m := s.Merge()
	wantStep(t, g, m, 0, 1, false, api.OK)
	wantStep(t, g, m, 0, 1, true, api.OK)
	if m.Key() != root.Key || m.Ref() == root.Ref || m.Refs()[0] == old["a"].ref {
		t.Errorf("Refs: %v", m.Refs())
	}
	wantTree(t, g, api.Entry{Key: m.Key(), Ref: m.Ref()}, p)
	// The root alone: what is in it is used.
	g, s, root, _, old = example(t)
	g.store.Drop(root.Ref)
	m = s.Merge()
	wantStep(t, g, m, 0, 1, true, api.OK)
	if m.Key() != root.Key || m.Ref() == root.Ref || m.Ref().Hash != root.Ref.Hash || m.Refs()[0] != old["a"].ref {
		t.Errorf("Refs: %v", m.Refs())
	}
	// It is asked when the directory's turn comes.
	g, s, root, _, old = example(t)
	m = s.Merge()
	g.store.Drop(root.Ref)
	wantStep(t, g, m, 0, 1, true, api.OK)
	if m.Ref() == root.Ref || g.store.Uses(old["a"].ref) != 2 {
		t.Errorf("Refs: %v", m.Refs())
	}
}

// Test10_5Path: another directory's old node, or the node of a directory that is not of the old tree, is no reason to use it without looking: it is put, and so read.
func Test10_5Path(t *testing.T) {
	g, s, _, p, old := example(t)
	wantSet(t, s, "z/b", p["a/b"], p.set("z/b", p["a/b"])) // just a's entries
	m := s.Merge()
	wantStep(t, g, m, 1, 0, false, api.OK)
	wantStep(t, g, m, 0, 1, true, api.OK)
	if l := m.Refs(); l[0] != old["a"].ref || l[1] != old["a"].ref || g.store.Uses(l[0]) != 3 {
		t.Errorf("Refs: %v, %d uses", l, g.store.Uses(l[0]))
	}
	wantTree(t, g, api.Entry{Key: m.Key(), Ref: m.Ref()}, p)
}

// Test10_5Broken: where the same bytes lay, and are broken, the node is read and then written.
func Test10_5Broken(t *testing.T) {
	g, s, _, p, old := example(t)
	g.turn(t, old["a"].ref.First)
	wantSet(t, s, "z/b", p["a/b"], p.set("z/b", p["a/b"]))
	m := s.Merge()
	wantStep(t, g, m, 1, 0, false, api.OK)
	wantStep(t, g, m, 0, 1, false, api.OK)
	wantStep(t, g, m, 0, 1, true, api.OK)
	if l := m.Refs(); l[0] != old["a"].ref || l[1] == l[0] || l[1].Hash != l[0].Hash || g.store.Uses(l[0]) != 2 || g.store.Uses(l[1]) != 1 {
		t.Errorf("Refs: %v", l)
	}
}

// Test10_5Entries: just the same entries: another place of a file's bytes is another entry, and so is a file for a directory of that name.
func Test10_5Entries(t *testing.T) {
	for _, spoil := range []func(r *api.Ref){
		func(r *api.Ref) { r.First++ },
		func(r *api.Ref) { r.Len++ },
		func(r *api.Ref) { r.Hash[31]++ },
	} {
		g, s, root, p, old := example(t)
		r := p["a/b"]
		spoil(&r)
		wantSet(t, s, "a/b", r, p.set("a/b", r))
		m := s.Merge()
		wantStep(t, g, m, 0, 1, false, api.OK)
		wantStep(t, g, m, 0, 1, true, api.OK)
		if g.store.Uses(root.Ref) != 1 || g.store.Uses(old["a"].ref) != 1 {
			t.Error("an old node is used")
		}
		wantTree(t, g, api.Entry{Key: m.Key(), Ref: m.Ref()}, p)
	}
	g, s, _, p, old := example(t)
	wantErased(t, s, "a/b", p.erase("a/b"))
	file := api.Ref{Hash: old["a"].ref.Hash, First: old["a"].ref.First, Len: old["a"].ref.Len}
	wantSet(t, s, "a", file, p.set("a", file)) // the node's bytes as a file
	wantTree(t, g, finished(t, s.Merge()), p)
	// The empty map.
	wantKept(t, s, p.keep())
	m := s.Merge()
	wantStep(t, g, m, 0, 1, true, api.OK)
	if b, _, err := g.store.Get(m.Ref()); string(b) != "\x01\x00" || err != api.OK || len(m.Refs()) != 1 {
		t.Errorf("the empty tree: %x, %d", b, err)
	}
	wantTree(t, g, api.Entry{Key: m.Key(), Ref: m.Ref()}, plain{})
}

// twice: sets that make two directories with one node, which are unlike all old ones.
func twice(t *testing.T, s *Stage, p plain) {
	t.Helper()
	for _, at := range []string{"x/f", "y/f", "z/f/g"} {
		wantSet(t, s, at, p["c"], p.set(at, p["c"]))
	}
}

// Test10_6: a merge that ended OK has one use of each directory's node, and is not left any more.
func Test10_6(t *testing.T) {
	g, s, _, p, old := example(t)
	twice(t, s, p)
	m := s.Merge()
	end := finished(t, m)
	was := g.account()
	for range 2 {
		m.Leave()
		wantStep(t, g, m, 0, 0, true, api.OK)
		if m.Key() != end.Key || m.Ref() != end.Ref || len(m.Refs()) != 6 || m.Refs()[5] != end.Ref {
			t.Errorf("behind Leave: %x, %v, %v", m.Key(), m.Ref(), m.Refs())
		}
	}
	if !g.account().equal(was) {
		t.Error("Leave behind the end did something")
	}
	l := m.Refs() // a, x, y, z/f, z, the root; z/f has g
	if l[0] != old["a"].ref || l[1] != l[2] || l[3] == l[2] || g.store.Uses(l[1]) != 2 || g.store.Uses(l[0]) != 2 {
		t.Errorf("Refs: %v", l)
	}
	for _, ref := range l {
		g.store.Undo(ref)
	}
	if g.store.Uses(l[1]) != 0 || g.store.Uses(l[5]) != 0 || g.store.Uses(l[0]) != 1 || g.store.Spent() != 0 {
		t.Error("the uses are not one a directory")
	}
}

// Test10_6Leave: a merge that is left after any number of Steps has done nothing but acts.
func Test10_6Leave(t *testing.T) {
	for steps := range 20 {
		g, s, _, p, old := example(t)
		twice(t, s, p)
		for i := range 20 {
			at := fmt.Sprintf("z/%s%02d", strings.Repeat("n", 62), i)
			wantSet(t, s, at, p["c"], p.set(at, p["c"]))
		}
		was := g.account()
		m := s.Merge()
		done, ended := 0, false
		for ; done < steps && !ended; done++ {
			ended, _ = m.Step()
		}
		if ended {
			if steps != 10 { // x written, y read, z/f written, z: 6 Writes, the root
				t.Fatalf("ended by %d Steps", steps)
			}
			return
		}
		m.Leave()
		is := g.account()
		if !is.same(was) {
			t.Errorf("left behind %d Steps: %v, not %v", steps, is, was)
		}
		if acts := is.acts.Reads + is.acts.Writes - was.acts.Reads - was.acts.Writes; acts != steps {
			t.Errorf("%d acts of %d Steps", acts, steps)
		}
		for range 2 {
			wantStep(t, g, m, 0, 0, true, api.ErrRef)
			wantNothing(t, m)
			m.Leave()
		}
		if !g.account().equal(is) {
			t.Error("Step or Leave behind the end did something")
		}
		for sector, b := range was.image { // what was taken was free
			if !slices.Contains(was.free, sector) && !bytes.Equal(b, is.image[sector]) {
				t.Errorf("the sector %d was written", sector)
			}
		}
		wantTree(t, g, finished(t, s.Merge()), p)
		if g.store.Uses(old["a"].ref) != 2 {
			t.Errorf("%d uses of a", g.store.Uses(old["a"].ref))
		}
	}
	t.Error("no merge has ended")
}

// Test10_6NoSpace: an error of a put ends the merge, and all is as it was.
func Test10_6NoSpace(t *testing.T) {
	for free := range 4 {
		g, s, _, p, old := example(t)
		twice(t, s, p)
		for g.space.Free() > free {
			g.space.Take()
		}
		was := g.account()
		m := s.Merge()
		for _, reads := range []int{0, 1, 0, 0}[:[]int{0, 2, 3, 4}[free]] {
			wantStep(t, g, m, reads, 1-reads, false, api.OK)
		}
		for range 2 {
			wantStep(t, g, m, 0, 0, true, api.ErrNoSpace)
			wantNothing(t, m)
			if !g.account().same(was) {
				t.Errorf("%d free: %v, not %v", free, g.account(), was)
			}
			m.Leave()
		}
		if g.store.Uses(old["a"].ref) != 1 {
			t.Error("a is used")
		}
	}
}

// Test10_6Others: what others do to what the merge used or wrote is theirs.
func Test10_6Others(t *testing.T) {
	g, s, _, p, old := example(t)
	twice(t, s, p)
	m := s.Merge()
	wantStep(t, g, m, 0, 1, false, api.OK) // a, then x
	wantStep(t, g, m, 1, 0, false, api.OK) // y is x
	wantStep(t, g, m, 0, 1, false, api.OK) // z/f
	var x api.Ref
	for _, ref := range g.store.Refs() {
		if g.store.Uses(ref) == 2 && ref != old["a"].ref {
			x = ref
		}
	}
	g.store.Use(x)                                   // another one uses what the merge wrote
	g.store.Drop(old["a"].ref)                       // and drops what it used
	g.store.Drop(old["a"].ref)                       // to the last use
	held, free := g.store.Held()-1, g.space.Free()+1 // z/f's sector
	m.Leave()
	if g.store.Uses(x) != 1 || g.store.Uses(old["a"].ref) != 0 || g.store.Held() != held || g.store.Spent() != 1 || g.space.Free() != free {
		t.Errorf("%d uses, %d held, %d spent, %d free", g.store.Uses(x), g.store.Held(), g.store.Spent(), g.space.Free())
	}
}

// Test10_7: whatever is done to a stage, it tells what a map tells to which the same was done.
func Test10_7(t *testing.T) {
	for seed := range int64(40) {
		r := rand.New(rand.NewSource(seed))
		g := newGround(t, 400, 10)
		refs := someRefs(t, g, r)
		p := randomPlain(r, 30, refs)
		root, _ := g.plant(t, p)
		s := g.staged(t, root)
		for range 60 {
			was := g.account()
			change(t, r, s, p, refs)
			if !g.account().equal(was) {
				t.Fatal("the store is not as it was")
			}
			wantAsPlain(t, g, s, p, []string{"", randomPath(r), randomPath(r), randomPath(r)})
		}
		wantAsPlain(t, g, s, p, p.asked())
	}
}

// someRefs: of files that lie there, and of some that lie nowhere.
func someRefs(t *testing.T, g *ground, r *rand.Rand) []api.Ref {
	t.Helper()
	var l []api.Ref
	for range 5 {
		b := make([]byte, []int{0, 1, r.Intn(20), 479 + r.Intn(4), r.Intn(2000)}[r.Intn(5)])
		r.Read(b)
		l = append(l, g.put(t, b))
	}
	lost := l[0]
	lost.First = 65535
	return append(l, api.Ref{}, api.Ref{Hash: api.Key{5}, First: 7, Len: 262144}, lost)
}

// change does the same to a stage and to a map; both must answer the same.
func change(t *testing.T, r *rand.Rand, s *Stage, p plain, refs []api.Ref) {
	t.Helper()
	at := randomPath(r)
	if l := p.paths(); len(l) > 0 && r.Intn(3) == 0 {
		at = l[r.Intn(len(l))]
	}
	if r.Intn(20) == 0 {
		at = []string{"", "/", at + "/", "/" + at, at + "//b", at + "/..", at + "é"}[r.Intn(7)]
	}
	switch r.Intn(12) {
	case 0, 1, 2, 3, 4, 5:
		ref := refs[r.Intn(len(refs))]
		if r.Intn(10) == 0 {
			ref.First = far[r.Intn(len(far))]
		}
		if r.Intn(10) == 0 {
			ref.Len = far[r.Intn(len(far))]
		}
		wantSet(t, s, at, ref, p.set(at, ref))
	case 6, 7, 8, 9, 10:
		wantErased(t, s, at, p.erase(at))
	default:
		var l []string
		for _, at := range p.paths() {
			if r.Intn(5) > 0 {
				l = append(l, at)
			}
		}
		for range r.Intn(4) {
			l = slices.Insert(l, r.Intn(len(l)+1), randomPath(r))
		}
		if r.Intn(4) == 0 {
			l = append(l, at)
		}
		wantKept(t, s, p.keep(l...), l...)
	}
}

// Test10_8: the key is the map's, over whatever tree and in whatever way it was made; a merge has it, and its tree.
func Test10_8(t *testing.T) {
	for seed := range int64(30) {
		r := rand.New(rand.NewSource(seed))
		g := newGround(t, 2000, 10)
		refs := someRefs(t, g, r)
		want := randomPlain(r, 20, refs)
		for range 3 {
			p := randomPlain(r, 20, refs)
			root, _ := g.plant(t, p)
			s := g.staged(t, root)
			for range r.Intn(10) {
				change(t, r, s, p, refs)
			}
			wantKept(t, s, api.OK, want.paths()...)
			paths := want.paths()
			r.Shuffle(len(paths), func(i, j int) { paths[i], paths[j] = paths[j], paths[i] })
			for _, at := range paths {
				ref := want[at]
				ref.First = r.Intn(65536) // nothing to the key
				for f := range p {
					if strings.HasPrefix(at, f+"/") || strings.HasPrefix(f, at+"/") {
						s.Erase(f)
					}
				}
				wantSet(t, s, at, ref, api.OK)
				if r.Intn(2) == 0 {
					wantSet(t, s, at, want[at], api.OK)
				}
			}
			if s.Key() != want.key("") {
				t.Fatalf("Key: %x, not %x", s.Key(), want.key(""))
			}
			for at, ref := range want {
				wantSet(t, s, at, ref, api.OK)
			}
			wantTree(t, g, finished(t, s.Merge()), want)
		}
	}
}

// Test10_8Unlike: whatever of a map is another, its key is.
func Test10_8Unlike(t *testing.T) {
	_, s, root, p, _ := example(t)
	r := p["a/b"]
	keys := map[api.Key]string{root.Key: "the tree"}
	for _, x := range []struct {
		at  string
		ref api.Ref
	}{
		{"a/b", api.Ref{Hash: r.Hash, First: r.First, Len: 2}},
		{"a/b", api.Ref{Hash: p["c"].Hash, First: r.First, Len: 1}},
		{"c", api.Ref{Hash: p["c"].Hash, First: r.First, Len: 1}},
		{"a/c", r}, {"d", r}, {"b/a", r}, {"b", r}, {"a/b.", r},
	} {
		was, err := s.Find(x.at)
		wantSet(t, s, x.at, x.ref, api.OK)
		if at, ok := keys[s.Key()]; ok {
			t.Errorf("%q has the key of %q", x.at, at)
		}
		keys[s.Key()] = x.at
		if err == api.OK {
			wantSet(t, s, x.at, was, api.OK)
		} else {
			wantErased(t, s, x.at, api.OK)
		}
		if s.Key() != root.Key {
			t.Errorf("%q: changed back, the key is another", x.at)
		}
	}
}

// Test10_9: just what is new is written.
func Test10_9(t *testing.T) {
	for seed := range int64(60) {
		r := rand.New(rand.NewSource(seed))
		g := newGround(t, 1000, 10)
		refs := someRefs(t, g, r)
		p := randomPlain(r, 40, refs)
		root, old := g.plant(t, p)
		s := g.staged(t, root)
		was := g.account()
		back := plain{}
		for at, ref := range p {
			back[at] = ref
		}
		for range r.Intn(20) { // all is changed back
			change(t, r, s, back, refs)
		}
		wantKept(t, s, api.OK, p.paths()...)
		for _, at := range back.paths() {
			if _, ok := p[at]; !ok {
				s.Erase(at)
			}
		}
		for at, ref := range p {
			wantSet(t, s, at, ref, api.OK)
		}
		m := s.Merge()
		wantStep(t, g, m, 0, 0, true, api.OK)
		if m.Key() != root.Key || m.Ref() != root.Ref || len(m.Refs()) != len(old) {
			t.Fatalf("nothing was changed: %v, not %v", m.Ref(), root.Ref)
		}
		for _, d := range old {
			g.store.Drop(d.ref)
		}
		if !g.account().equal(was) {
			t.Fatal("more than a use of each was done")
		}
		now := plain{}
		for at, ref := range p {
			now[at] = ref
		}
		for range 1 + r.Intn(4) {
			change(t, r, s, now, refs)
		}
		wantUnwritten(t, g, s, p, now, old)
	}
}

// wantUnwritten: of a directory in and below which nothing is another the merge uses the old node; all others are written, or read where such a one lies.
func wantUnwritten(t *testing.T, g *ground, s *Stage, p, now plain, old map[string]oldDir) {
	t.Helper()
	was := g.disk.Acts()
	m := s.Merge()
	end := finished(t, m)
	acts := g.disk.Acts()
	var dirs []string
	var visit func(at string)
	visit = func(at string) {
		for _, n := range now.names(at) {
			if _, ok := now[joined(at, n)]; !ok {
				visit(joined(at, n))
			}
		}
		dirs = append(dirs, at)
	}
	visit("")
	if len(dirs) != len(m.Refs()) {
		t.Fatalf("%d refs of %d directories", len(m.Refs()), len(dirs))
	}
	sectors := 0
	for i, at := range dirs {
		if _, ok := old[at]; ok && sameBelow(p, now, at) {
			if m.Refs()[i] != old[at].ref {
				t.Errorf("%q was not changed, and its node is %v, not %v", at, m.Refs()[i], old[at].ref)
			}
		} else {
			sectors += chain.Sectors(m.Refs()[i].Len)
		}
	}
	if n := acts.Writes - was.Writes + acts.Reads - was.Reads; n != sectors {
		t.Errorf("%d acts for %d sectors", n, sectors)
	}
	wantTree(t, g, end, now)
}

// sameBelow: whether two maps have the same in and below a directory.
func sameBelow(p, q plain, at string) bool {
	of := func(p plain) (l []string) {
		for f, ref := range p {
			if at == "" || strings.HasPrefix(f, at+"/") {
				l = append(l, fmt.Sprint(f, ref))
			}
		}
		slices.Sort(l)
		return l
	}
	return slices.Equal(of(p), of(q))
}

// Test10_10: stages change nothing, whatever is done to them, nor do merges that were left.
func Test10_10(t *testing.T) {
	for seed := range int64(60) {
		r := rand.New(rand.NewSource(seed))
		g := newGround(t, 150+r.Intn(300), 10)
		refs := someRefs(t, g, r)
		p := randomPlain(r, 20, refs)
		root, _ := g.plant(t, p)
		was := g.account()
		s := g.staged(t, root)
		for range 20 {
			m := s.Merge()
			for range r.Intn(12) {
				m.Step()
				change(t, r, s, p, refs)
			}
			m.Leave()
			for _, ref := range slices.Backward(m.Refs()) { // it had ended
				g.store.Undo(ref)
			}
			if is := g.account(); !is.same(was) {
				t.Fatalf("%v, not %v", is, was)
			}
		}
	}
}

// twins: two grounds to which the same is done: by the program to one, by the plain reading to the other.
type twins struct {
	a, b   *ground
	stage  *Stage
	files  plain
	old    map[string]oldDir
	refs   []api.Ref
	merges []*Merge
	plains []*plainMerge
}

func newTwins(t *testing.T, seed int64, r *rand.Rand) *twins {
	t.Helper()
	x := &twins{}
	room := []int{r.Intn(10), r.Intn(100)}[r.Intn(2)]
	for _, g := range []**ground{&x.a, &x.b} {
		*g = newGround(t, 300, 10)
		same := rand.New(rand.NewSource(seed))
		x.refs = someRefs(t, *g, same)
		x.files = randomPlain(same, 15, x.refs)
		var root api.Entry
		root, x.old = (*g).plant(t, x.files)
		if *g == x.a {
			x.stage = x.a.staged(t, root)
		} else {
			New(x.b.store, root.Key, root.Ref) // for its Reads
		}
		for n := 299; (*g).space.Free() > room; n-- {
			(*g).space.Claim(n)
		}
	}
	return x
}

// other does something to both stores that is no merge's doing.
func (x *twins) other(t *testing.T, r *rand.Rand) {
	t.Helper()
	l := x.a.store.Refs()
	if len(l) == 0 {
		return
	}
	ref := l[r.Intn(len(l))]
	what := r.Intn(8)
	free := x.a.space.List()
	for _, g := range []*ground{x.a, x.b} {
		switch what {
		case 0:
			g.store.Use(ref)
		case 1:
			g.store.Drop(ref)
		case 2:
			g.store.Undo(ref)
		case 3:
			g.store.Sweep()
		case 4:
			g.turn(t, g.store.Sectors(ref)[0])
		case 5:
			if len(free) > 0 { // one that nobody takes meanwhile: there is less room
				g.space.Claim(free[len(free)-1])
			}
		}
	}
}

// step steps, or leaves, one of the merges.
func (x *twins) step(t *testing.T, r *rand.Rand) {
	t.Helper()
	i := r.Intn(len(x.merges))
	m, p := x.merges[i], x.plains[i]
	if r.Intn(25) == 0 {
		m.Leave()
		p.leave()
	} else {
		ended, err := m.Step()
		wantEnded, want := p.step()
		if ended != wantEnded || err != want {
			t.Fatalf("Step: %t, %d; not %t, %d", ended, err, wantEnded, want)
		}
	}
	if !x.a.account().equal(x.b.account()) {
		t.Fatalf("the stores are unlike: %v, not %v", x.a.account(), x.b.account())
	}
	refs, key, ref := p.refs, p.key, api.Ref{}
	if !p.ended || p.err != api.OK {
		refs, key = nil, api.Key{}
	} else {
		ref = refs[len(refs)-1]
	}
	if m.Key() != key || m.Ref() != ref || !slices.Equal(m.Refs(), refs) {
		t.Fatalf("%x, %v, %v; not %x, %v, %v", m.Key(), m.Ref(), m.Refs(), key, ref, refs)
	}
}

// TestTwins: merges, several at a time, step by step as the chapter's plain reading, whatever others do between.
func TestTwins(t *testing.T) {
	ends := map[api.Errno]int{}
	for seed := range int64(100) {
		r := rand.New(rand.NewSource(seed))
		x := newTwins(t, seed, r)
		for range 150 {
			switch k := r.Intn(10); {
			case k < 2:
				change(t, r, x.stage, x.files, x.refs)
			case k == 2 && len(x.merges) < 8:
				x.merges = append(x.merges, x.stage.Merge())
				x.plains = append(x.plains, x.b.merge(x.files, x.old))
			case k == 3 && seed%2 == 0:
				x.other(t, r)
			case len(x.merges) > 0:
				x.step(t, r)
			}
		}
		for i, p := range x.plains {
			x.merges[i].Leave()
			p.leave()
			ends[p.err]++
		}
		if !x.a.account().equal(x.b.account()) {
			t.Fatal("the stores are unlike at the end")
		}
	}
	for _, err := range []api.Errno{api.OK, api.ErrRef, api.ErrNoSpace} {
		if ends[err] < 20 {
			t.Errorf("only %d merges ended with %d", ends[err], err)
		}
	}
}

// lent: a text whose bytes are another one's, who changes them when the call is done.
func lent(text string) (string, func()) {
	b := []byte(text)
	return unsafe.String(unsafe.SliceData(b), len(b)), func() {
		for i := range b {
			b[i] = '#'
		}
	}
}

// Test10_11: nothing that is handed in is kept.
func Test10_11(t *testing.T) {
	g, s, _, p, _ := example(t)
	set := func(at string, ref api.Ref) {
		t.Helper()
		text, scribble := lent(at)
		wantSet(t, s, text, ref, p.set(at, ref))
		scribble()
		wantAsPlain(t, g, s, p, p.asked())
	}
	r := p["a/b"]
	for range 2 { // also where the path is there already
		set("d", r)
		set("d/e", r)
		set("f/g/h", r)
		set("a/b", p["c"])
		set("c", r)
		set("f/g/i", r)
		set("", r)
	}
	for _, at := range []string{"f", "f/g", "x"} {
		text, scribble := lent(at)
		s.List(text)
		s.Find(text)
		s.Read(text)
		s.Erase(text)
		scribble()
	}
	wantAsPlain(t, g, s, p, p.asked())
	text, scribble := lent("f/g/i")
	wantErased(t, s, text, p.erase("f/g/i"))
	scribble()
	wantAsPlain(t, g, s, p, p.asked())
	text, scribble = lent("f/g/h")
	other, also := lent("c")
	given := []string{other, text, "x"}[:2]
	wantKept(t, s, p.keep("f/g/h", "c"), given...)
	if given[:3][2] != "x" || given[0] != "c" || given[1] != "f/g/h" {
		t.Error("what was handed in is another")
	}
	scribble()
	also()
	wantAsPlain(t, g, s, p, p.asked())
	wantTree(t, g, finished(t, s.Merge()), p)
}

// Test10_11Answers: answers are new memory, spare room too.
func Test10_11Answers(t *testing.T) {
	g, s, _, p, _ := example(t)
	for i := range 5 {
		at := fmt.Sprintf("d/n%d", i)
		wantSet(t, s, at, p["c"], p.set(at, p["c"]))
	}
	m := s.Merge()
	finished(t, m)
	for range 2 {
		paths := s.Paths()
		spoil(paths, "spoilt")
		l, _ := s.List("d")
		spoil(l, api.Listed{Name: "spoilt"})
		b, _ := s.Read("a/b")
		spoil(b, '#')
		refs := m.Refs()
		spoil(refs, api.Ref{First: 1})
		wantAsPlain(t, g, s, p, p.asked())
		if refs := m.Refs(); len(refs) != 3 || refs[2] != m.Ref() || slices.Contains(refs, api.Ref{First: 1}) {
			t.Errorf("Refs: %v", refs)
		}
	}
	wantTree(t, g, finished(t, s.Merge()), p)
}

// spoil writes over a list, and over the room behind it.
func spoil[T any](l []T, x T) {
	l = l[:cap(l)]
	for i := range l {
		l[i] = x
	}
}

// Test10_11Two: stages over one tree, and merges of one stage, know nothing of each other.
func Test10_11Two(t *testing.T) {
	g, s, root, p, _ := example(t)
	other := g.staged(t, root)
	q := plain{"a/b": p["a/b"], "c": p["c"]}
	wantSet(t, s, "a/b", p["c"], p.set("a/b", p["c"]))
	wantSet(t, s, "d", p["c"], p.set("d", p["c"]))
	wantErased(t, s, "c", p.erase("c"))
	wantAsPlain(t, g, other, q, q.asked())
	wantSet(t, other, "c", q["a/b"], q.set("c", q["a/b"]))
	wantAsPlain(t, g, s, p, p.asked())
	first, second, third := s.Merge(), other.Merge(), s.Merge()
	for done := 0; done < 3; {
		done = 0
		for _, m := range []*Merge{first, second, third} {
			ended, err := m.Step()
			if err != api.OK {
				t.Fatal(err)
			}
			if ended {
				done++
			}
		}
	}
	wantTree(t, g, api.Entry{Key: first.Key(), Ref: first.Ref()}, p)
	wantTree(t, g, api.Entry{Key: second.Key(), Ref: second.Ref()}, q)
	wantTree(t, g, api.Entry{Key: third.Key(), Ref: third.Ref()}, p)
	wantAsPlain(t, g, other, q, q.asked())
	wantAsPlain(t, g, g.staged(t, api.Entry{Key: first.Key(), Ref: first.Ref()}), p, p.asked())
}

// A merge is a stepper, and has the put that is under way, if there is one.
func TestWays(t *testing.T) {
	g, s, _, p, _ := example(t)
	wantSet(t, s, "d/e", p["c"], api.OK)
	for i := range 20 {
		wantSet(t, s, fmt.Sprintf("d/%s%02d", strings.Repeat("n", 62), i), p["c"], api.OK)
	}
	m := s.Merge()
	var stepper api.Stepper = m
	if m.Put != nil {
		t.Error("nothing is under way yet")
	}
	stepper.Step()
	if l := m.Taken(); len(l) != chain.Sectors(2+69+20*138) || m.Wrote() {
		t.Errorf("Taken: %v", l)
	}
	for ended := false; !ended; {
		ended, _ = stepper.Step()
	}
	if m.Put != nil || m.store != nil || m.old != nil || m.todo != nil || m.used != nil || m.written != nil {
		t.Error("more is kept than what is told")
	}
	if _, err := node.Decode(mustGet(t, g, m.Ref())); err != api.OK {
		t.Error(err)
	}
}

func mustGet(t *testing.T, g *ground, ref api.Ref) []byte {
	t.Helper()
	b, _, err := g.store.Get(ref)
	if err != api.OK {
		t.Fatal(err)
	}
	return b
}
