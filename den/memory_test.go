package den

import (
	"bytes"
	"fmt"
	"math"
	"reflect"
	"slices"
	"strings"
	"sync"
	"testing"
	"unsafe"

	"kiln/api"
)

// roomy: the same files, with something in the spare room of each list.
func roomy(src []api.File) []api.File {
	l := make([]api.File, 0, len(src)+2)
	for _, f := range src {
		f.Data = append(slices.Clone(f.Data), "spare room"...)[:len(f.Data)]
		l = append(l, f)
	}
	return append(l, files("in", "spare", "", "room")...)[:len(src)]
}

// opened: all that lies in the lists and behind them, in new memory.
func opened(src []api.File) []api.File {
	l := slices.Clone(src[:cap(src)])
	for i, f := range l {
		l[i].Data = slices.Clone(f.Data[:cap(f.Data)])
	}
	return l
}

// 16.11: what is handed in is not changed, nor the room behind it; and that room is not looked at.
func TestHandedIn(t *testing.T) {
	for seed := range int64(600) {
		c := newChance(seed, []int{0, 1, 3}[seed%3])
		manifest, src := c.manifest(10), roomy(c.source())
		before := opened(src)
		wantAsRead(t, manifest, src)
		if !reflect.DeepEqual(opened(src), before) {
			t.Fatalf("16.11: the source was changed by %q", manifest)
		}
		for _, x := range c.tasks(3) {
			var ins [][]byte
			for range x.In {
				ins = append(ins, append(c.bytes(), "spare"...)[:2])
			}
			l := slices.Clone(ins)
			for i := range l {
				l[i] = slices.Clone(ins[i][:cap(ins[i])])
			}
			shape := fmt.Sprintf("%#v", x)
			Make(x, ins)
			for i := range l {
				if !bytes.Equal(ins[i][:cap(ins[i])], l[i]) {
					t.Fatalf("16.11: an input was changed by %v", x)
				}
			}
			if fmt.Sprintf("%#v", x) != shape {
				t.Fatalf("16.11: a task was changed: %v", x)
			}
		}
	}
}

// spoil writes over a list, and over its spare room.
func spoil(b []byte) {
	for i := range b[:cap(b)] {
		b[:cap(b)][i] ^= 0xff
	}
}

// passing: a manifest in which each thing is handed on as it is.
const passing = "task a 999\nin f\nout o = in(f)\nout p = if(in(f),in(f),in(f))\nend\ntask b 999\nin f o p\nout q = in(o)\nout r = cat(in(p))\nout s = lines(in(f),0,9)\nout t = \"text\"\nout u = \"text\"\nend\n"

// 16.11: the files of an answer are new memory, spare room too: they share none with the source, nor with one another.
func TestHandedOut(t *testing.T) {
	for _, call := range []func([]api.File) ([]api.File, api.Fault){
		func(src []api.File) ([]api.File, api.Fault) { return Den(passing, src) },
		func(src []api.File) ([]api.File, api.Fault) { return Side(nil, 3, passing, src) },
	} {
		src := roomy(files("f", "one\ntwo\n", "g", "three"))
		before := opened(src)
		l, f := call(src)
		again, _ := call(src)
		if f != (api.Fault{}) || len(l) != 7 {
			t.Fatalf("%s, %v", shown(l), f)
		}
		for i := range l {
			want := slices.Clone(l)
			for j := range want {
				want[j].Data = slices.Clone(l[j].Data)
			}
			spoil(l[i].Data)
			_ = append(l[i].Data, "written behind it"...)
			for j := range l {
				if i != j && !bytes.Equal(l[j].Data, want[j].Data) {
					t.Errorf("16.11: %s and %s share memory", l[i].Path, l[j].Path)
				}
			}
		}
		_ = append(l, api.File{Path: "behind"})
		clear(l)
		if !reflect.DeepEqual(opened(src), before) {
			t.Error("16.11: a file of the answer lies in the source")
		}
		want, _ := denPlainly(passing, src)
		if !same(again, want) {
			t.Error("16.11: two answers share memory")
		}
	}
}

// 16.11: the same of the values of Make.
func TestValuesHandedOut(t *testing.T) {
	x := taskOf(t, "task a 999\nin f g\nout o = in(f)\nout p = in(f)\nout q = if(in(g),in(g),in(f))\nout r = \"text\"\nout s = \"text\"\nend\n")
	ins := list("one", "two")
	v, _, err := Make(x, ins)
	again, _, _ := Make(x, ins)
	want := list("one", "one", "two", "text", "text")
	if err != api.OK {
		t.Fatal(err)
	}
	for i := range v {
		if !bytes.Equal(v[i], want[i]) {
			t.Errorf("16.11: the value %d was %q, and is %q", i, want[i], v[i])
		}
		spoil(v[i])
		_ = append(v[i], "written behind it"...)
	}
	clear(v[:cap(v)])
	if !slices.EqualFunc(again, want, bytes.Equal) || !slices.EqualFunc(ins, list("one", "two"), bytes.Equal) {
		t.Errorf("16.11: values share memory: %q, %q", again, ins)
	}
}

// 16.11: the tasks and the order of Plan are new memory.
func TestPlanHandedOut(t *testing.T) {
	manifest := passing + task("c", 9, "q in", "z = upper(in(q))")
	src := files("f", "", "in", "")
	tasks, order, _ := Plan(manifest, src)
	again, places, fault := Plan(manifest, src)
	for _, x := range tasks {
		clear(x.In[:cap(x.In)])
		for _, o := range x.Out {
			clear(o.Term.Args[:cap(o.Term.Args)])
		}
		clear(x.Out[:cap(x.Out)])
	}
	clear(tasks[:cap(tasks)])
	clear(order[:cap(order)])
	want, numbers, _ := planPlainly(manifest, src)
	if !reflect.DeepEqual(again, want) || !slices.Equal(places, numbers) || fault != (api.Fault{}) {
		t.Errorf("16.11: %v, %v, %v", again, places, fault)
	}
}

// lent: a text that lies in memory which is written over later.
func lent(s string) (string, func()) {
	b := []byte(s)
	return unsafe.String(unsafe.SliceData(b), len(b)), func() {
		for i := range b {
			b[i] = '#'
		}
	}
}

// 16.11: nothing of what was handed in is kept, in an answer, in a fault or in a tally: it may be written over.
func TestNotKept(t *testing.T) {
	manifest, over := lent(passing)
	path, overPath := lent("f")
	src := []api.File{{Path: path, Data: []byte("1")}}
	l, _ := Den(manifest, src)
	m, _ := Side(nil, 2, manifest, src)
	tasks, _, _ := Plan(manifest, src)
	over()
	overPath()
	src[0].Data[0] = '#'
	want := files("o", "1", "p", "1", "q", "1", "r", "1", "s", "1", "t", "text", "u", "text")
	if !same(l, want) || !same(m, want) {
		t.Errorf("16.11: %s; %s", shown(l), shown(m))
	}
	if read, _, _ := planPlainly(passing, files("f", "")); !reflect.DeepEqual(tasks, read) {
		t.Errorf("16.11: %v", tasks)
	}
	for _, r := range []struct{ text, name string }{
		{task("turns", 9, "p", `p = ""`), "turns"}, {task("lacks", 9, "p", `q = ""`), "lacks"}, {task("fails", 9, "", `p = fail("")`), "fails"},
	} {
		manifest, over := lent(r.text)
		_, f := Den(manifest, nil)
		_, g := Side(nil, 2, manifest, nil)
		over()
		if f.Task != r.name || g.Task != r.name {
			t.Errorf("16.11: %q, %q, want %q", f.Task, g.Task, r.name)
		}
	}
	a := NewTally()
	path, over = lent("dir/file")
	wantAdd(t, a, path, 1, api.OK)
	over()
	wantAdd(t, a, "dir/file", 1, api.ErrTree)
	wantAdd(t, a, "dir", 1, api.ErrTree)
	wantAdd(t, a, "dir/file/x", 1, api.ErrTree)
	for i := range api.MaxDir - 1 {
		wantAdd(t, a, fmt.Sprint("dir/", i), 1, api.OK)
	}
	wantAdd(t, a, "dir/x", 1, api.ErrTree)
}

// 16.7, 16.11: nothing is kept from call to call, whatever ended it.
func TestNothingKept(t *testing.T) {
	for seed := range int64(300) {
		c := newChance(seed, []int{0, 1}[seed%2])
		manifest, src, other, others := c.manifest(8), c.source(), c.manifest(8), c.source()
		wantAsRead(t, manifest, src)
		wantAsRead(t, other, others)
		wantAsRead(t, manifest, src)
		for _, f := range src {
			spoil(f.Data)
		}
		wantAsRead(t, manifest, src)
	}
}

// 16.11: calls side by side, over one source, answer as one behind the other.
func TestSideBySide(t *testing.T) {
	c := newChance(7, 3)
	src := files("in", "b\na\n", "d/in", "1", "d/e/in", "", "d.in", "2", "x", "3\n")
	var all sync.WaitGroup
	var texts []string
	for range 40 {
		texts = append(texts, c.manifest(10))
	}
	for workers := range 8 {
		all.Go(func() {
			for _, manifest := range texts {
				want, fault := denPlainly(manifest, src)
				if l, f := Den(manifest, src); !same(l, want) || f != fault {
					t.Errorf("16.11: Den side by side: %s, %v", shown(l), f)
				}
				if l, f := Side(nil, 1+workers, manifest, src); !same(l, want) || f != fault {
					t.Errorf("16.11: Side side by side: %s, %v", shown(l), f)
				}
			}
		})
	}
	all.Wait()
}

// 16.11: every call ends, and none panics, whatever it is given.
func TestItEnds(t *testing.T) {
	many := slices.Repeat(files("a", ""), 1<<20)
	wantSource(t, many, 1, api.ErrSource)
	for i := range many {
		many[i].Path = fmt.Sprint(i)
	}
	wantSource(t, many, api.MaxFiles, api.ErrSource)
	wantFault(t, sorts, many, api.Fault{Err: api.ErrSource, Place: api.MaxFiles})
	for _, s := range []string{strings.Repeat("\xff", 1<<22), strings.Repeat("task t 9\n", 1<<18)} {
		wantFault(t, s, nil, api.Fault{Err: api.ErrLong})
		wantSource(t, files(s, ""), 0, api.ErrSource)
		wantAdd(t, NewTally(), s, 1, api.ErrPath)
	}
	own := []api.Term{{Kind: api.TText}, {Kind: api.TCat}}
	own[1].Args = own // a term that is its own
	wantNotMade(t, api.Task{Budget: 1000, Out: []api.Output{{Term: own[1]}}}, nil, api.ErrBudget)
	wantNotMade(t, api.Task{Budget: math.MaxInt, Out: make([]api.Output, 1<<20)}, nil, api.ErrUnknown)
	wantNotMade(t, api.Task{Budget: 9, In: make([]string, 1<<20), Out: make([]api.Output, 1)}, make([][]byte, 1<<20), api.ErrUnknown)
	c := newChance(8, 0)
	for range 3000 { // bytes by chance, of those that a manifest has
		b := make([]byte, c.Intn(80))
		for i := range b {
			b[i] = one(c, []byte("taskinoutend  \n\n\"\"=(),t9#\\x0")...)
		}
		wantAsRead(t, string(b), example())
		at := c.Intn(len(sorts))
		wantAsRead(t, sorts[:at]+string(b[:min(len(b), 3)])+sorts[at:], example())
	}
}
