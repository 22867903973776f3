package den

import (
	"fmt"
	"math/rand"
	"slices"
	"strings"
	"testing"

	"kiln/api"
)

// named: a file for a path, with no bytes.
func named(paths ...string) []api.File {
	var l []api.File
	for _, p := range paths {
		l = append(l, api.File{Path: p})
	}
	return l
}

// 16.1: texts that are no paths, wherever they stand.
func TestSourcePaths(t *testing.T) {
	long := strings.Repeat(strings.Repeat("n", 50)+"/", 5) // 255 bytes with its last /
	for _, p := range []string{"", "/", "a/", "/a", "a//b", ".", "..", "a/.", "a/../b", "a b", "a\x00", "é", "a\\b", strings.Repeat("n", 65), long + "n", strings.Repeat("a/", 16) + "a", strings.Repeat("a", 1<<20)} {
		for i := range 4 {
			wantSource(t, slices.Insert(named("x", "y/z", "z"), i, named(p)...), i, api.ErrSource)
		}
	}
	for _, p := range []string{"a", "...", "-", "_", "a/b", strings.Repeat("n", 64), long[:254], strings.Repeat("a/", 15) + "a"} {
		wantSource(t, named("x", p, "y"), 0, api.OK)
	}
}

// 16.1: a path that is there, that begins one or is begun by one, name by name, in both orders.
func TestSourceApart(t *testing.T) {
	l := []string{"a", "a/b", "a/b/c", "a/b/c/d", "a/c", "a.b", "a-", "ab", "A", "b", "b/a", "a/b.c", "a/bc", "aa/b", "a/a/b/c", strings.Repeat("a/", 15) + "a"}
	for _, p := range l {
		for _, q := range l {
			place, err := 0, api.OK
			if begins(p, q) || begins(q, p) {
				place, err = 1, api.ErrSource
			}
			wantSource(t, named(p, q), place, err)
			if place > 0 {
				place = 3
			}
			wantSource(t, named("x", p, "y/z", q, "z"), place, err)
		}
	}
	wantSource(t, named("a/b/c", "a/b/d", "a/e", "a"), 3, api.ErrSource)
	wantSource(t, named("a/b/c", "a/b/d", "a/e", "a/b"), 3, api.ErrSource)
	wantSource(t, named("a", "b", "c", "d", "c/d/e/f"), 4, api.ErrSource)
	wantSource(t, named("a/b/c", "a/b/c/d", "a"), 1, api.ErrSource)
}

// 16.1: a file of MaxFile bytes, and one of more; files that have more together than all outputs may have.
func TestSourceBytes(t *testing.T) {
	data := make([]byte, api.MaxFile+1)
	for i := range 3 {
		l := named("a", "b", "c")
		l[i].Data = data[:api.MaxFile]
		wantSource(t, l, 0, api.OK)
		l[i].Data = data
		wantSource(t, l, i, api.ErrSource)
	}
	wantSource(t, []api.File{{Path: "a", Data: make([]byte, 1<<26)}}, 0, api.ErrSource)
	var many []api.File
	for i := range api.MaxFiles {
		many = append(many, api.File{Path: fmt.Sprint(i), Data: data[:api.MaxFile]})
	}
	wantSource(t, many, 0, api.OK)
}

// 16.1: MaxFiles files, all in one directory too, and one more.
func TestSourceFiles(t *testing.T) {
	for _, dir := range []string{"", "d/", "d/e/"} {
		var l []api.File
		for i := range api.MaxFiles + 3 {
			l = append(l, api.File{Path: dir + fmt.Sprint(i)})
		}
		wantSource(t, l[:api.MaxFiles-1], 0, api.OK)
		wantSource(t, l[:api.MaxFiles], 0, api.OK)
		wantSource(t, l[:api.MaxFiles+1], api.MaxFiles, api.ErrSource)
		wantSource(t, l, api.MaxFiles, api.ErrSource)
		l[api.MaxFiles].Path = l[7].Path
		wantSource(t, l, api.MaxFiles, api.ErrSource)
		l[api.MaxFiles-1].Path = l[7].Path
		wantSource(t, l, api.MaxFiles-1, api.ErrSource)
		l[3].Path = ""
		wantSource(t, l, 3, api.ErrSource)
	}
}

// 16.1: the first of several that break it, by chance, against the plain reading.
func TestSourceAsRead(t *testing.T) {
	r := rand.New(rand.NewSource(1))
	at := map[int]int{}
	for range 20000 {
		var l []api.File
		for range r.Intn(12) {
			l = append(l, api.File{Path: chancePath(r), Data: make([]byte, r.Intn(3))})
		}
		if len(l) > 0 && r.Intn(9) == 0 {
			l[r.Intn(len(l))].Data = make([]byte, api.MaxFile+r.Intn(2))
		}
		place, err := sourcePlainly(l)
		wantSource(t, l, place, err)
		at[place]++
	}
	if len(at) < 10 {
		t.Errorf("the first wrong file stands only at %v", at)
	}
}

// chancePath: mostly a path of few names, of which there are few.
func chancePath(r *rand.Rand) string {
	names := []string{"a", "b", "c", "a.b", "a-", "ab", "B"}
	p := names[r.Intn(len(names))]
	for range r.Intn(4) {
		p += "/" + names[r.Intn(len(names))]
	}
	if r.Intn(60) == 0 {
		p += []string{"/", "/..", " ", "//x"}[r.Intn(4)]
	}
	return p
}
