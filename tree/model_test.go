package tree

import (
	"bytes"
	"math/rand"
	"slices"
	"strings"
	"testing"

	"kiln/api"
	"kiln/chain"
	"kiln/disk"
	"kiln/node"
	"kiln/path"
	"kiln/space"
	"kiln/store"
)

// ground: a disk, and a store over its sectors from heap on.
type ground struct {
	disk  *disk.Disk
	space *space.Space
	store *store.Store
}

func newGround(t *testing.T, sectors, heap int) *ground {
	t.Helper()
	d, err := disk.New(sectors)
	if err != api.OK {
		t.Fatal(err)
	}
	sp, err := space.New(heap, sectors)
	if err != api.OK {
		t.Fatal(err)
	}
	st, err := store.New(d, sp)
	if err != api.OK {
		t.Fatal(err)
	}
	return &ground{disk: d, space: sp, store: st}
}

// put puts a byte string whole: where it lies.
func (g *ground) put(t *testing.T, b []byte) api.Ref {
	t.Helper()
	p, err := g.store.Put(b)
	for ended := false; !ended && err == api.OK; {
		ended, err = p.Step()
	}
	if err != api.OK {
		t.Fatalf("a put of %d bytes: %d", len(b), err)
	}
	return p.Ref()
}

// file puts a file: its entry.
func (g *ground) file(t *testing.T, name, text string) api.Entry {
	t.Helper()
	ref := g.put(t, []byte(text))
	return api.Entry{Name: name, Key: ref.Hash, Ref: ref}
}

// dir puts a directory of these entries, in whatever order they are: its entry.
func (g *ground) dir(t *testing.T, name string, l ...api.Entry) api.Entry {
	t.Helper()
	l = slices.SortedFunc(slices.Values(l), func(a, b api.Entry) int { return strings.Compare(a.Name, b.Name) })
	b, err := node.Encode(l)
	if err != api.OK {
		t.Fatalf("Encode(%v): %d", l, err)
	}
	key, _ := node.KeyOf(l)
	return api.Entry{Name: name, Dir: true, Key: key, Ref: g.put(t, b)}
}

// tree: the tree whose root is a directory of these entries.
func (g *ground) tree(t *testing.T, l ...api.Entry) *Tree {
	t.Helper()
	return g.rooted(t, g.dir(t, "", l...))
}

// rooted: the tree whose root has the Key and Ref of this entry.
func (g *ground) rooted(t *testing.T, root api.Entry) *Tree {
	t.Helper()
	x, err := New(g.store, root.Key, root.Ref)
	if x == nil || err != api.OK {
		t.Fatalf("New: %v, %d", x, err)
	}
	return x
}

// plan: a tree as a map, with what each path of it, files, directories and the root, has for an entry.
type plan struct {
	files   map[string]string
	entries map[string]api.Entry
}

// plant writes the tree of a map.
func (g *ground) plant(t *testing.T, files map[string]string) (*Tree, plan) {
	t.Helper()
	p := plan{files: files, entries: map[string]api.Entry{}}
	p.entries[""] = g.plantDir(t, p, "", "")
	return g.rooted(t, p.entries[""]), p
}

// plantDir writes the directory of a name that has this path.
func (g *ground) plantDir(t *testing.T, p plan, at, name string) api.Entry {
	t.Helper()
	var l []api.Entry
	for _, n := range p.names(at) {
		below := joined(at, n)
		if text, ok := p.files[below]; ok {
			p.entries[below] = g.file(t, n, text)
		} else {
			p.entries[below] = g.plantDir(t, p, below, n)
		}
		l = append(l, p.entries[below])
	}
	return g.dir(t, name, l...)
}

// joined: the path of a name in a directory.
func joined(at, name string) string {
	return strings.TrimPrefix(at+"/"+name, "/")
}

// names: those that begin, behind a directory's path, the rest of a path of the map; in byte order.
func (p plan) names(at string) []string {
	set := map[string]int{}
	for f := range p.files {
		if rest, ok := strings.CutPrefix("/"+f, strings.TrimSuffix("/"+at, "/")+"/"); ok {
			name, _, _ := strings.Cut(rest, "/")
			set[name]++
		}
	}
	var l []string
	for n := range set {
		l = append(l, n)
	}
	slices.Sort(l)
	return l
}

// paths: of all files and directories, and the root's, in the order of paths.
func (p plan) paths() []string {
	var l []string
	for at := range p.entries {
		l = append(l, at)
	}
	slices.SortFunc(l, path.Order)
	return l
}

// find tells what the map tells of a path, and how many Reads that needs.
func (p plan) find(at string) (api.Entry, api.Errno, int) {
	if at == "" {
		return p.entries[""], api.OK, 0
	}
	if !isPath(at) {
		return api.Entry{}, api.ErrPath, 0
	}
	reads := p.sectors("")
	names := strings.Split(at, "/")
	for i := 1; i < len(names); i++ {
		e, ok := p.entries[strings.Join(names[:i], "/")]
		if !ok {
			return api.Entry{}, api.ErrAbsent, reads
		}
		if !e.Dir {
			return api.Entry{}, api.ErrFile, reads
		}
		reads += chain.Sectors(e.Ref.Len)
	}
	if e, ok := p.entries[at]; ok {
		return e, api.OK, reads
	}
	return api.Entry{}, api.ErrAbsent, reads
}

// sectors: of the chain of what lies at a path.
func (p plan) sectors(at string) int {
	return chain.Sectors(p.entries[at].Ref.Len)
}

// asked: paths of the tree, paths beside them, and what is no path.
func (p plan) asked() []string {
	l := []string{"", "/", ".", "..", "a b", "é", "nobody", "nobody/at/all", strings.Repeat("n", 64), strings.Repeat("n", 65), strings.Repeat("a/", 15) + "a", strings.Repeat("a/", 16) + "a", strings.Repeat("abc/", 63) + "abc"}
	for _, at := range p.paths() {
		l = append(l, at, at+"/", "/"+at, at+"x", at+".", joined(at, "x"), joined(at, "nobody/x"), joined(at, ".."), strings.ToUpper(at))
		if at != "" {
			l = append(l, at[:len(at)-1])
		}
	}
	return l
}

func isPath(at string) bool {
	_, err, _ := path.Parse(at)
	return err == api.OK
}

// told: a path with what a loop tells of it.
type told struct {
	path  string
	entry api.Entry
}

// walked: all that Walk tells.
func walked(x *Tree) []told {
	var l []told
	for at, e := range x.Walk() {
		l = append(l, told{at, e})
	}
	return l
}

// The chapter, read plainly: slow, and nothing of it is the program's.

// plainDir reads a directory.
func plainDir(st *store.Store, at string, key api.Key, ref api.Ref) ([]api.Entry, int, api.Errno) {
	b, broken, err := st.Get(ref)
	if err != api.OK {
		return nil, broken, err
	}
	l, err := node.Decode(b)
	if err != api.OK {
		return nil, ref.First, api.ErrBroken
	}
	if k, _ := node.KeyOf(l); k != key {
		return nil, ref.First, api.ErrBroken
	}
	if len(l) == 0 && at != "" {
		return nil, ref.First, api.ErrBroken
	}
	for _, e := range l {
		if p := joined(at, e.Name); len(p) > 255 || strings.Count(p, "/") > 15 {
			return nil, ref.First, api.ErrBroken
		}
	}
	return l, 0, api.OK
}

// plainFind finds what lies at a path.
func plainFind(st *store.Store, root api.Entry, at string) (api.Entry, int, api.Errno) {
	if at == "" {
		return root, 0, api.OK
	}
	if !isPath(at) {
		return api.Entry{}, 0, api.ErrPath
	}
	here, gone, rest := root, "", at
	for {
		name, behind, more := strings.Cut(rest, "/")
		l, broken, err := plainDir(st, gone, here.Key, here.Ref)
		if err != api.OK {
			return api.Entry{}, broken, err
		}
		found := false
		for _, e := range l {
			if e.Name == name {
				here, found = e, true
			}
		}
		switch {
		case !found:
			return api.Entry{}, 0, api.ErrAbsent
		case more && !here.Dir:
			return api.Entry{}, 0, api.ErrFile
		case !more:
			return here, 0, api.OK
		}
		gone, rest = joined(gone, name), behind
	}
}

// plainGet gets a file.
func plainGet(st *store.Store, root api.Entry, at string) ([]byte, int, api.Errno) {
	if !isPath(at) {
		return nil, 0, api.ErrPath
	}
	e, broken, err := plainFind(st, root, at)
	if err != api.OK {
		return nil, broken, err
	}
	if e.Dir {
		return nil, 0, api.ErrDir
	}
	return st.Get(e.Ref)
}

// plainList lists a directory.
func plainList(st *store.Store, root api.Entry, at string) ([]api.Listed, int, api.Errno) {
	e, broken, err := plainFind(st, root, at)
	if err != api.OK {
		return nil, broken, err
	}
	if !e.Dir {
		return nil, 0, api.ErrFile
	}
	l, broken, err := plainDir(st, at, e.Key, e.Ref)
	if err != api.OK {
		return nil, broken, err
	}
	var names []api.Listed
	for _, e := range l {
		x := api.Listed{Name: e.Name, Dir: e.Dir}
		if !e.Dir {
			x.Len = e.Ref.Len
		}
		names = append(names, x)
	}
	return names, 0, api.OK
}

// plainWalk tells all that a walk tells, by what comes next in a heap of what is not told yet.
func plainWalk(st *store.Store, root api.Entry) []told {
	var l []told
	for open := []told{{"", root}}; len(open) > 0; {
		slices.SortFunc(open, func(a, b told) int { return path.Order(a.path, b.path) })
		here := open[0]
		open = open[1:]
		l = append(l, here)
		if !here.entry.Dir {
			continue
		}
		in, _, _ := plainDir(st, here.path, here.entry.Key, here.entry.Ref)
		for _, e := range in {
			open = append(open, told{joined(here.path, e.Name), e})
		}
	}
	return l
}

// plainAll tells all files, or the first error.
func plainAll(st *store.Store, root api.Entry) ([]api.File, int, api.Errno) {
	var l []api.File
	for _, x := range plainWalk(st, root) {
		if x.entry.Dir {
			if _, broken, err := plainDir(st, x.path, x.entry.Key, x.entry.Ref); err != api.OK {
				return nil, broken, err
			}
			continue
		}
		b, broken, err := st.Get(x.entry.Ref)
		if err != api.OK {
			return nil, broken, err
		}
		l = append(l, api.File{Path: x.path, Data: b})
	}
	return l, 0, api.OK
}

// wantAsPlain holds a tree, whole or not, to the plain reading, at these paths.
func wantAsPlain(t *testing.T, g *ground, x *Tree, paths []string) {
	t.Helper()
	root := api.Entry{Dir: true, Key: x.Key(), Ref: x.Ref()}
	for _, at := range paths {
		wantPathAsPlain(t, g, x, root, at)
	}
	if l, want := walked(x), plainWalk(g.store, root); !slices.Equal(l, want) {
		t.Errorf("9.5: Walk tells %v, not %v", l, want)
	}
	l, broken, err := x.All()
	m, wantBroken, wantErr := plainAll(g.store, root)
	if !sameFiles(l, m) || broken != wantBroken || err != wantErr {
		t.Errorf("9.6: All: %v, %d, %d; not %v, %d, %d", l, broken, err, m, wantBroken, wantErr)
	}
}

// wantPathAsPlain holds what is told of one path to the plain reading, its Reads too.
func wantPathAsPlain(t *testing.T, g *ground, x *Tree, root api.Entry, at string) {
	t.Helper()
	reads := func(call func()) int {
		was := g.disk.Acts()
		call()
		is := g.disk.Acts()
		if is.Writes != was.Writes || is.Flushes != was.Flushes {
			t.Errorf("9.13: %q: more than Reads: %v, then %v", at, was, is)
		}
		return is.Reads - was.Reads
	}
	var e, wantE api.Entry
	var b, wantB []byte
	var l, wantL []api.Listed
	var broken, wantBroken int
	var err, wantErr api.Errno
	n := reads(func() { e, broken, err = x.Find(at) })
	wantN := reads(func() { wantE, wantBroken, wantErr = plainFind(g.store, root, at) })
	if e != wantE || broken != wantBroken || err != wantErr || n != wantN {
		t.Errorf("9.2: Find(%q): %v, %d, %d, %d Reads; not %v, %d, %d, %d", at, e, broken, err, n, wantE, wantBroken, wantErr, wantN)
	}
	n = reads(func() { l, broken, err = x.List(at) })
	wantN = reads(func() { wantL, wantBroken, wantErr = plainList(g.store, root, at) })
	if !slices.Equal(l, wantL) || broken != wantBroken || err != wantErr || n != wantN {
		t.Errorf("9.4: List(%q): %v, %d, %d, %d Reads; not %v, %d, %d, %d", at, l, broken, err, n, wantL, wantBroken, wantErr, wantN)
	}
	n = reads(func() { b, broken, err = x.Get(at) })
	wantN = reads(func() { wantB, wantBroken, wantErr = plainGet(g.store, root, at) })
	if !bytes.Equal(b, wantB) || broken != wantBroken || err != wantErr || n != wantN {
		t.Errorf("9.3: Get(%q): %q, %d, %d, %d Reads; not %q, %d, %d, %d", at, b, broken, err, n, wantB, wantBroken, wantErr, wantN)
	}
	wantReading(t, g, x, at, wantB, wantBroken, wantErr, wantN)
}

// wantReading holds a reading to what Get answers, and to a Read a Step.
func wantReading(t *testing.T, g *ground, x *Tree, at string, b []byte, broken int, err api.Errno, reads int) {
	t.Helper()
	was := g.disk.Acts().Reads
	r, e := x.Reading(at)
	if err == api.ErrPath {
		if r != nil || e != api.ErrPath || g.disk.Acts().Reads != was {
			t.Errorf("9.8: Reading(%q): %v, %d", at, r, e)
		}
		return
	}
	if r == nil || e != api.OK || g.disk.Acts().Reads != was {
		t.Fatalf("9.8: Reading(%q): %v, %d, %d Reads", at, r, e, g.disk.Acts().Reads-was)
	}
	for done := 0; done < max(1, reads)-1; {
		wantEmpty(t, at, r)
		done++
		if ended, e := r.Step(); ended || e != api.OK || g.disk.Acts().Reads-was != done {
			t.Fatalf("9.8: %q: Step %d of %d: %t, %d, %d Reads", at, done, reads, ended, e, g.disk.Acts().Reads-was)
		}
	}
	wantEmpty(t, at, r)
	for range 3 {
		if ended, e := r.Step(); !ended || e != err || g.disk.Acts().Reads-was != reads {
			t.Fatalf("9.8: %q: the last Step: %t, %d, %d Reads; not true, %d, %d", at, ended, e, g.disk.Acts().Reads-was, err, reads)
		}
		if !bytes.Equal(r.Bytes(), b) || r.Broken() != broken {
			t.Errorf("9.9: %q: %q, %d; not %q, %d", at, r.Bytes(), r.Broken(), b, broken)
		}
	}
}

// wantEmpty: a reading that has not ended tells nothing.
func wantEmpty(t *testing.T, at string, r *Reading) {
	t.Helper()
	if len(r.Bytes()) != 0 || r.Broken() != 0 {
		t.Errorf("9.9: %q, not ended: %q, %d", at, r.Bytes(), r.Broken())
	}
}

func sameFiles(a, b []api.File) bool {
	return slices.EqualFunc(a, b, func(x, y api.File) bool { return x.Path == y.Path && bytes.Equal(x.Data, y.Data) })
}

// Trees by chance.

// someNames: such as stand otherwise among paths than among texts, and some that are alike.
var someNames = []string{"a", "a-", "a.", "a.b", "a_", "a0", "aa", "b", "B", "-", "...", "_", "0", "z.c"}

// randomFiles: a map that is a tree.
func randomFiles(r *rand.Rand, most int) map[string]string {
	files := map[string]string{}
	for range r.Intn(most + 1) {
		at := ""
		for range 1 + r.Intn(4) {
			at = joined(at, someNames[r.Intn(len(someNames))])
		}
		clash := false
		for f := range files {
			clash = clash || path.Under(f, at) || path.Under(at, f)
		}
		if !clash {
			files[at] = randomText(r)
		}
	}
	return files
}

func randomText(r *rand.Rand) string {
	b := make([]byte, []int{0, 1, r.Intn(20), 479 + r.Intn(4), r.Intn(2000)}[r.Intn(5)])
	r.Read(b)
	return string(b)
}

// lie: a directory by chance, here and there with an entry that leads to nothing sound.
func (g *ground) lie(t *testing.T, r *rand.Rand, deep int, paths *[]string, at, name string) api.Entry {
	t.Helper()
	var l []api.Entry
	for i := range someNames {
		if r.Intn(4) != 0 {
			continue
		}
		n := someNames[i]
		below := joined(at, n)
		*paths = append(*paths, below)
		e := g.file(t, n, randomText(r))
		if deep > 0 && r.Intn(2) == 0 {
			e = g.lie(t, r, deep-1, paths, below, n)
		}
		if r.Intn(6) == 0 {
			e = g.twist(t, r, e)
		}
		l = append(l, e)
	}
	return g.dir(t, name, l...)
}

// twist: an entry of the same name that a directory may have, and that need not be true.
func (g *ground) twist(t *testing.T, r *rand.Rand, e api.Entry) api.Entry {
	t.Helper()
	switch r.Intn(8) {
	case 0:
		e.Ref.First = r.Intn(g.disk.Sectors() + 10)
	case 1:
		e.Ref.Len = max(0, e.Ref.Len+r.Intn(3)-1)
	case 2:
		e.Dir = true // a file's bytes for a node
	case 3:
		if e.Dir {
			e.Key[r.Intn(32)] ^= 1 << r.Intn(8)
		}
	case 4:
		e = g.dir(t, e.Name)
	case 5:
		e.Ref.Hash[r.Intn(32)] ^= 1 << r.Intn(8)
		if !e.Dir {
			e.Key = e.Ref.Hash
		}
	case 6:
		e = api.Entry{Name: e.Name, Dir: r.Intn(2) == 0}
	default:
		other := g.file(t, "f", "for another one")
		e = g.dir(t, e.Name, other)
		e.Key = other.Key
	}
	return e
}
