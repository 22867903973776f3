package den

import (
	"fmt"
	"math"
	"math/rand"
	"strings"
	"testing"

	"kiln/api"
)

func wantAdd(t *testing.T, a *Tally, path string, n int, want api.Errno) {
	t.Helper()
	before := a.Bytes()
	if err := a.Add(path, n); err != want {
		t.Fatalf("16.4: Add(%q, %d) = %d, want %d", path, n, err, want)
	}
	if want == api.OK {
		before += n
	}
	if a.Bytes() != before {
		t.Fatalf("16.4: behind Add(%q, %d) there are %d bytes, want %d", path, n, a.Bytes(), before)
	}
}

// 16.4: of a new one nothing is there; files of no bytes are files too.
func TestTallyOfNone(t *testing.T) {
	a, b := NewTally(), NewTally()
	if a.Bytes() != 0 {
		t.Errorf("16.4: %d bytes of none", a.Bytes())
	}
	wantAdd(t, a, "a", 0, api.OK)
	wantAdd(t, a, "a", 0, api.ErrTree)
	wantAdd(t, b, "a", 5, api.OK)
	wantAdd(t, a, "b", 7, api.OK)
	if a.Bytes() != 7 || b.Bytes() != 5 {
		t.Errorf("16.4: %d, %d bytes", a.Bytes(), b.Bytes())
	}
}

// 16.4: ErrPath, ahead of all that is wrong with the number.
func TestTallyPaths(t *testing.T) {
	a := NewTally()
	wantAdd(t, a, "a", api.MaxTotal, api.OK)
	for _, p := range []string{"", "/", "a/", "/a", "a//b", ".", "..", "b/..", "a b", "é", strings.Repeat("n", 65), strings.Repeat("a/", 16) + "a", strings.Repeat("n/", 128)} {
		for _, n := range []int{math.MinInt, -1, 0, 1, api.MaxTotal + 1, math.MaxInt} {
			wantAdd(t, a, p, n, api.ErrPath)
		}
	}
	wantAdd(t, a, strings.Repeat("b/", 15)+"b", 0, api.OK)
	wantAdd(t, a, strings.Repeat("n", 64), 0, api.OK)
}

// 16.4: a path that is there, begins one that is or is begun by one, name by name.
func TestTallyApart(t *testing.T) {
	l := []string{"a", "a/b", "a/b/c", "a/b/c/d", "a/c", "a.b", "a-", "ab", "A", "b", "b/a", "a/b.c", "a/bc", "aa/b", "a/a/b/c", strings.Repeat("a/", 15) + "a"}
	for _, p := range l {
		for _, q := range l {
			a := NewTally()
			wantAdd(t, a, p, 1, api.OK)
			want := api.OK
			if begins(p, q) || begins(q, p) {
				want = api.ErrTree
			}
			wantAdd(t, a, q, 1, want)
		}
	}
}

// 16.4: how many bytes a file may have, and all together.
func TestTallyBytes(t *testing.T) {
	for _, first := range []int{0, 1, 5, api.MaxFile, api.MaxFile + 1, api.MaxTotal - 1, api.MaxTotal} {
		a := NewTally()
		wantAdd(t, a, "a", first, api.OK)
		for _, n := range []int{math.MinInt, math.MinInt + 1, -api.MaxTotal, -5, -1, api.MaxTotal - first + 1, api.MaxTotal + 1, 1 << 40, math.MaxInt - 1, math.MaxInt} {
			wantAdd(t, a, "b", n, api.ErrTree)
		}
		wantAdd(t, a, "b", api.MaxTotal-first, api.OK)
		wantAdd(t, a, "c", 1, api.ErrTree)
		wantAdd(t, a, "c", 0, api.OK)
		if a.Bytes() != api.MaxTotal {
			t.Errorf("16.4: %d bytes", a.Bytes())
		}
	}
}

// 16.4: a directory has at most MaxDir names, the root too; a directory is one name of the one above, however much is in it.
func TestTallyNames(t *testing.T) {
	for _, dir := range []string{"", "d/", "d/e/", "d/e/f/"} {
		for _, behind := range []string{"", "/x", "/x/y/z"} {
			a := NewTally()
			for i := range api.MaxDir {
				wantAdd(t, a, fmt.Sprint(dir, "n", i, behind), 1, api.OK)
			}
			for _, p := range []string{"m", "m/x", "m/x/y/z"} {
				wantAdd(t, a, dir+p, 1, api.ErrTree)
			}
			if behind != "" { // a directory of the full one may have more names
				wantAdd(t, a, dir+"n7/more", 1, api.OK)
				wantAdd(t, a, dir+"n7/most/more", 1, api.OK)
				wantAdd(t, a, dir+"n7/most/most", 1, api.OK)
			}
			if dir != "" { // and so may the one above
				wantAdd(t, a, "m", 1, api.OK)
				wantAdd(t, a, "e/m", 1, api.OK)
			}
			wantAdd(t, a, dir+"m", 1, api.ErrTree)
		}
	}
}

// 16.4: two full directories, in one another.
func TestTallyFullInFull(t *testing.T) {
	a := NewTally()
	for i := range api.MaxDir {
		wantAdd(t, a, fmt.Sprint("d/", i), 1, api.OK)
	}
	for i := range api.MaxDir - 1 {
		wantAdd(t, a, fmt.Sprint(i), 1, api.OK)
	}
	wantAdd(t, a, "x", 1, api.ErrTree)
	wantAdd(t, a, "x/y", 1, api.ErrTree)
	wantAdd(t, a, "d/x", 1, api.ErrTree)
	wantAdd(t, a, "d/x/y", 1, api.ErrTree)
}

// 16.4: what is refused does not join: neither it nor a directory of it, nor its bytes.
func TestTallyRefused(t *testing.T) {
	a := NewTally()
	for _, n := range []int{-1, api.MaxTotal + 1, math.MaxInt} {
		wantAdd(t, a, "d/e/f", n, api.ErrTree)
	}
	wantAdd(t, a, "d/e", 1, api.OK)
	wantAdd(t, a, "d/e/f", 1, api.ErrTree)
	wantAdd(t, a, "d/e/f/g", 1, api.ErrTree)
	wantAdd(t, a, "d/f", 1, api.OK)
	for i := range api.MaxDir - 2 {
		wantAdd(t, a, fmt.Sprint("d/", i), 1, api.OK)
		wantAdd(t, a, fmt.Sprint("d/", i), 1, api.ErrTree)
		wantAdd(t, a, fmt.Sprint("d/", i, "/x"), 1, api.ErrTree)
		wantAdd(t, a, fmt.Sprint("d/x", i), -1, api.ErrTree)
	}
	wantAdd(t, a, "d/x/y", 1, api.ErrTree)
	wantAdd(t, a, "e/x/y", 1, api.OK)
	wantAdd(t, a, "e/x", 1, api.ErrTree)
}

// 16.4: chance paths and numbers, against the plain reading.
func TestTallyAsRead(t *testing.T) {
	for seed := range int64(400) {
		r := rand.New(rand.NewSource(seed))
		a, plain := NewTally(), plainTally{}
		for range 60 {
			p, n := chancePath(r), r.Intn(5)-r.Intn(2)
			switch r.Intn(10) {
			case 0:
				n = api.MaxTotal - r.Intn(200)
			case 1:
				n = r.Intn(api.MaxTotal)
			}
			wantAdd(t, a, p, n, plain.add(p, n))
			if a.Bytes() != plain.bytes {
				t.Fatalf("16.4: %d bytes, want %d", a.Bytes(), plain.bytes)
			}
		}
	}
}

// 16.4: many names, by chance in few directories, against the plain reading.
func TestTallyFullAsRead(t *testing.T) {
	r := rand.New(rand.NewSource(3))
	a, plain := NewTally(), plainTally{}
	came := map[api.Errno]int{}
	for range 1700 {
		p := []string{"d/", "", "d/", "d/", "d/", "d/"}[r.Intn(6)] + fmt.Sprint(r.Intn(4000)) + []string{"", "", "/x"}[r.Intn(3)]
		want := plain.add(p, 1)
		wantAdd(t, a, p, 1, want)
		came[want]++
	}
	if came[api.OK] < 1000 || came[api.ErrTree] < 200 {
		t.Errorf("by chance: %v", came)
	}
}
