package stage

import (
	"bytes"
	"fmt"
	"iter"
	"math/rand"
	"slices"
	"strings"
	"testing"

	"kiln/api"
	"kiln/disk"
	"kiln/node"
	"kiln/path"
	"kiln/sha"
	"kiln/space"
	"kiln/store"
)

// ground: a disk, and a store over its sectors from heap on.
type ground struct {
	disk  *disk.Disk
	space *space.Space
	store *store.Store
}

func newGround(t *testing.T, sectors, heap int) *ground {
	t.Helper()
	d, err := disk.New(sectors)
	if err != api.OK {
		t.Fatal(err)
	}
	sp, err := space.New(heap, sectors)
	if err != api.OK {
		t.Fatal(err)
	}
	st, err := store.New(d, sp)
	if err != api.OK {
		t.Fatal(err)
	}
	return &ground{disk: d, space: sp, store: st}
}

// put puts a byte string whole: where it lies.
func (g *ground) put(t *testing.T, b []byte) api.Ref {
	t.Helper()
	p, err := g.store.Put(b)
	for ended := false; !ended && err == api.OK; {
		ended, err = p.Step()
	}
	if err != api.OK {
		t.Fatalf("a put of %d bytes: %d", len(b), err)
	}
	return p.Ref()
}

// file puts a file: its entry.
func (g *ground) file(t *testing.T, name, text string) api.Entry {
	t.Helper()
	ref := g.put(t, []byte(text))
	return api.Entry{Name: name, Key: ref.Hash, Ref: ref}
}

// dir puts a directory of these entries, in whatever order they are: its entry.
func (g *ground) dir(t *testing.T, name string, l ...api.Entry) api.Entry {
	t.Helper()
	l = slices.SortedFunc(slices.Values(l), func(a, b api.Entry) int { return strings.Compare(a.Name, b.Name) })
	b, err := node.Encode(l)
	if err != api.OK {
		t.Fatalf("Encode(%v): %d", l, err)
	}
	key, _ := node.KeyOf(l)
	return api.Entry{Name: name, Dir: true, Key: key, Ref: g.put(t, b)}
}

// staged: the stage over the tree whose root has the Key and Ref of this entry.
func (g *ground) staged(t *testing.T, root api.Entry) *Stage {
	t.Helper()
	s, err := New(g.store, root.Key, root.Ref)
	if s == nil || err != api.OK {
		t.Fatalf("New: %v, %d", s, err)
	}
	return s
}

// turn turns a bit of a sector over.
func (g *ground) turn(t *testing.T, sector int) {
	t.Helper()
	if err := g.disk.Turn(sector, 300); err != api.OK {
		t.Fatal(err)
	}
}

// account: all that a store tells of itself, and what lies on its disk.
type account struct {
	refs, stand []api.Ref
	uses        []int
	free        []int
	held, spent int
	acts        api.Acts
	image       [][]byte
}

func (g *ground) account() account {
	a := account{refs: g.store.Refs(), free: g.space.List(), held: g.store.Held(), spent: g.store.Spent(), acts: g.disk.Acts(), image: g.disk.Image()}
	for _, ref := range a.refs {
		a.uses = append(a.uses, g.store.Uses(ref))
		stands, _ := g.store.Find(ref.Hash)
		a.stand = append(a.stand, stands)
	}
	return a
}

// String: no more than what helps.
func (a account) String() string {
	return fmt.Sprintf("%d known, uses %v, free %v, %d held, %d spent, acts %v", len(a.refs), a.uses, a.free, a.held, a.spent, a.acts)
}

// same: whether two accounts are alike in all but the acts and what lies on the disk.
func (a account) same(b account) bool {
	return slices.Equal(a.refs, b.refs) && slices.Equal(a.stand, b.stand) && slices.Equal(a.uses, b.uses) && slices.Equal(a.free, b.free) && a.held == b.held && a.spent == b.spent
}

// equal: whether they are alike in these too.
func (a account) equal(b account) bool {
	return a.same(b) && a.acts == b.acts && slices.EqualFunc(a.image, b.image, bytes.Equal)
}

// The chapter, read plainly: slow, and nothing of it is the program's.

// plain: a map from paths to refs.
type plain map[string]api.Ref

// oldDir: a directory that was written.
type oldDir struct {
	entries []api.Entry
	ref     api.Ref
}

// joined: the path of a name in a directory.
func joined(at, name string) string {
	return strings.TrimPrefix(at+"/"+name, "/")
}

// names: those that begin, behind a directory's path, the rest of a path of the map; in byte order.
func (p plain) names(at string) []string {
	set := map[string]int{}
	for f := range p {
		if rest, ok := strings.CutPrefix("/"+f, strings.TrimSuffix("/"+at, "/")+"/"); ok {
			name, _, _ := strings.Cut(rest, "/")
			set[name]++
		}
	}
	var l []string
	for n := range set {
		l = append(l, n)
	}
	slices.Sort(l)
	return l
}

func (p plain) paths() []string {
	var l []string
	for at := range p {
		l = append(l, at)
	}
	slices.SortFunc(l, path.Order)
	return l
}

// find: what lies at a path.
func (p plain) find(at string) (api.Ref, api.Errno) {
	if _, err, _ := path.Parse(at); err != api.OK {
		return api.Ref{}, api.ErrPath
	}
	for f := range p {
		if strings.HasPrefix(at, f+"/") {
			return api.Ref{}, api.ErrFile
		}
	}
	if ref, ok := p[at]; ok {
		return ref, api.OK
	}
	for f := range p {
		if strings.HasPrefix(f, at+"/") {
			return api.Ref{}, api.ErrDir
		}
	}
	return api.Ref{}, api.ErrAbsent
}

func (p plain) set(at string, ref api.Ref) api.Errno {
	_, err := p.find(at)
	if err == api.ErrPath {
		return err
	}
	if ref.First < 0 || ref.First > 65535 || ref.Len < 0 || ref.Len > 262144 {
		return api.ErrRef
	}
	if err == api.ErrFile || err == api.ErrDir {
		return err
	}
	p[at] = ref
	if err == api.OK {
		return err
	}
	for dir := at; dir != ""; {
		dir = dir[:max(0, strings.LastIndex(dir, "/"))]
		if len(p.names(dir)) > 1024 {
			delete(p, at)
			return api.ErrMany
		}
	}
	return api.OK
}

func (p plain) erase(at string) api.Errno {
	_, err := p.find(at)
	if err == api.OK {
		delete(p, at)
	}
	return err
}

func (p plain) keep(paths ...string) api.Errno {
	for _, at := range paths {
		if _, err, _ := path.Parse(at); err != api.OK {
			return api.ErrPath
		}
	}
	for _, at := range p.paths() {
		if !slices.Contains(paths, at) {
			delete(p, at)
		}
	}
	return api.OK
}

func (p plain) list(at string) ([]api.Listed, api.Errno) {
	_, err := p.find(at)
	switch {
	case at == "", err == api.ErrDir:
	case err == api.OK:
		return nil, api.ErrFile
	default:
		return nil, err
	}
	var l []api.Listed
	for _, n := range p.names(at) {
		ref, ok := p[joined(at, n)]
		l = append(l, api.Listed{Name: n, Dir: !ok, Len: ref.Len})
	}
	return l, api.OK
}

// key: of a directory, byte by byte as chapter 8 says it.
func (p plain) key(at string) api.Key {
	b := []byte{1}
	for _, n := range p.names(at) {
		b = append(b, byte(len(n)))
		b = append(b, n...)
		ref, ok := p[joined(at, n)]
		if ok {
			b = append(b, 0)
			b = append(b, ref.Hash[:]...)
			rest := ref.Len
			for ; rest > 127; rest >>= 7 {
				b = append(b, byte(rest&127)|128)
			}
			b = append(b, byte(rest))
			continue
		}
		key := p.key(joined(at, n))
		b = append(b, 1)
		b = append(b, key[:]...)
	}
	return sha.Sum(b)
}

// plant writes the tree of a map: its root, and its directories by their paths.
func (g *ground) plant(t *testing.T, p plain) (api.Entry, map[string]oldDir) {
	t.Helper()
	old := map[string]oldDir{}
	return g.plantDir(t, p, old, "", ""), old
}

func (g *ground) plantDir(t *testing.T, p plain, old map[string]oldDir, at, name string) api.Entry {
	t.Helper()
	var l []api.Entry
	for _, n := range p.names(at) {
		if ref, ok := p[joined(at, n)]; ok {
			l = append(l, api.Entry{Name: n, Key: ref.Hash, Ref: ref})
		} else {
			l = append(l, g.plantDir(t, p, old, joined(at, n), n))
		}
	}
	e := g.dir(t, name, l...)
	old[at] = oldDir{l, e.Ref}
	return e
}

// texts puts files, and plants their tree.
func (g *ground) texts(t *testing.T, files map[string]string) (api.Entry, plain, map[string]oldDir) {
	t.Helper()
	p := plain{}
	var paths []string
	for at := range files {
		paths = append(paths, at)
	}
	slices.Sort(paths)
	for _, at := range paths {
		p[at] = g.put(t, []byte(files[at]))
	}
	root, old := g.plant(t, p)
	return root, p, old
}

// plainMerge: a merge of a map over a tree, which goes on by one act at a time (next), and may be left (stop).
type plainMerge struct {
	ground        *ground
	files         plain
	old           map[string]oldDir
	refs          []api.Ref
	used, written []api.Ref
	key           api.Key
	ended         bool
	err           api.Errno
	next          func() (int, bool)
	stop          func()
}

func (g *ground) merge(p plain, old map[string]oldDir) *plainMerge {
	m := &plainMerge{ground: g, files: plain{}, old: old, err: api.ErrRef}
	for at, ref := range p {
		m.files[at] = ref
	}
	m.next, m.stop = iter.Pull(m.acts)
	return m
}

func (m *plainMerge) step() (bool, api.Errno) {
	if _, ok := m.next(); ok {
		return false, api.OK
	}
	m.ended = true
	return true, m.err
}

func (m *plainMerge) leave() {
	if m.ended {
		return
	}
	m.stop()
	m.ended = true
}

// acts is told behind each act but one that ends the merge.
func (m *plainMerge) acts(yield func(int) bool) {
	e, ok := m.visit("", yield)
	if ok {
		m.key, m.err = e.Key, api.OK
		return
	}
	for _, ref := range m.used {
		m.ground.store.Drop(ref)
	}
	for i := len(m.written) - 1; i >= 0; i-- {
		m.ground.store.Undo(m.written[i])
	}
	m.refs, m.key = nil, api.Key{}
}

// visit goes through a directory, behind those in it; false: the merge is to end.
func (m *plainMerge) visit(at string, yield func(int) bool) (api.Entry, bool) {
	var l []api.Entry
	for _, n := range m.files.names(at) {
		if ref, ok := m.files[joined(at, n)]; ok {
			l = append(l, api.Entry{Name: n, Key: ref.Hash, Ref: ref})
			continue
		}
		e, ok := m.visit(joined(at, n), yield)
		if !ok {
			return e, false
		}
		e.Name = n
		l = append(l, e)
	}
	e := api.Entry{Dir: true, Key: m.files.key(at)}
	old, ok := m.old[at]
	if ok && slices.Equal(old.entries, l) && m.ground.store.Uses(old.ref) > 0 {
		m.ground.store.Use(old.ref)
		m.used = append(m.used, old.ref)
		m.refs = append(m.refs, old.ref)
		e.Ref = old.ref
		return e, true
	}
	b, _ := node.Encode(l)
	p, _ := m.ground.store.Put(b)
	for {
		ended, err := p.Step()
		if err != api.OK {
			m.err = err
			return e, false
		}
		if ended && p.Wrote() {
			m.written = append(m.written, p.Ref())
		} else if ended {
			m.used = append(m.used, p.Ref())
		}
		if ended && at == "" {
			break
		}
		if !yield(0) {
			p.Leave()
			return e, false
		}
		if ended {
			break
		}
	}
	m.refs = append(m.refs, p.Ref())
	e.Ref = p.Ref()
	return e, true
}

// wantAsPlain holds all that a stage tells to the map; of these paths too.
func wantAsPlain(t *testing.T, g *ground, s *Stage, p plain, paths []string) {
	t.Helper()
	if l := s.Paths(); !slices.Equal(l, p.paths()) {
		t.Fatalf("Paths: %q, not %q", l, p.paths())
	}
	if s.Key() != p.key("") {
		t.Fatalf("Key of %q: %x, not %x", s.Paths(), s.Key(), p.key(""))
	}
	for _, at := range paths {
		wantPathAsPlain(t, g, s, p, at)
	}
}

func wantPathAsPlain(t *testing.T, g *ground, s *Stage, p plain, at string) {
	t.Helper()
	ref, err := s.Find(at)
	wantRef, want := p.find(at)
	if ref != wantRef || err != want {
		t.Errorf("Find(%q): %v, %d; not %v, %d", at, ref, err, wantRef, want)
	}
	var wantB []byte
	if want == api.OK {
		wantB, _, want = g.store.Get(wantRef)
	}
	if b, err := s.Read(at); !bytes.Equal(b, wantB) || err != want {
		t.Errorf("Read(%q): %d bytes, %d; not %d, %d", at, len(b), err, len(wantB), want)
	}
	l, err := s.List(at)
	wantL, want := p.list(at)
	if !slices.Equal(l, wantL) || err != want {
		t.Errorf("List(%q): %v, %d; not %v, %d", at, l, err, wantL, want)
	}
}

// asked: paths of the map, their directories, paths beside them, and what is no path.
func (p plain) asked() []string {
	l := []string{"", "/", ".", "..", "a b", "é", "nobody", "nobody/at/all", strings.Repeat("n", 64), strings.Repeat("n", 65), strings.Repeat("a/", 15) + "a", strings.Repeat("a/", 16) + "a", strings.Repeat("abc/", 63) + "abc"}
	for _, at := range p.paths() {
		for ; at != ""; at = at[:max(0, strings.LastIndex(at, "/"))] {
			l = append(l, at, at+"/", "/"+at, at+"x", at+".", joined(at, "x"), joined(at, "nobody/x"), joined(at, ".."), strings.ToUpper(at), at[:len(at)-1])
		}
	}
	return l
}

// someNames: such as stand otherwise among paths than among texts, and some that are alike.
var someNames = []string{"a", "a-", "a.", "a.b", "a_", "a0", "aa", "b", "B", "-", "...", "_", "0", "z.c"}

// randomPath: of few names, so that files and directories meet.
func randomPath(r *rand.Rand) string {
	at := ""
	for range 1 + r.Intn(4) {
		at = joined(at, someNames[r.Intn(3+r.Intn(len(someNames)-2))])
	}
	return at
}

// randomPlain: a map of refs that are chosen out of these.
func randomPlain(r *rand.Rand, most int, refs []api.Ref) plain {
	p := plain{}
	for range r.Intn(most + 1) {
		p.set(randomPath(r), refs[r.Intn(len(refs))])
	}
	return p
}
