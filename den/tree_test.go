package den

import (
	"fmt"
	"slices"
	"strings"
	"testing"

	"kiln/api"
)

// fat: a source with a file of so many bytes.
func fat(n int) []api.File { return []api.File{{Path: "f", Data: make([]byte, n)}} }

// numbered: so many outputs of one term, as a task has them, by numbers from first on.
func numbered(dir string, first, n int, term string) []string {
	var l []string
	for i := range n {
		l = append(l, fmt.Sprintf("%s%d = %s", dir, first+i, term))
	}
	return l
}

// crowd: so many tasks with MaxOuts outputs each; name is what theirs begin with.
func crowd(name string, tasks int, ins, dir, term string) string {
	var b strings.Builder
	for i := range tasks {
		b.WriteString(task(fmt.Sprintf("%s%03d", name, i), api.MaxBudget, ins, numbered(dir, i*api.MaxOuts, api.MaxOuts, term)...))
	}
	return b.String()
}

// 16.5: an input is an output where there is one of that path, else the file of the source; sources that nobody takes are in no tree.
func TestWhereInputsComeFrom(t *testing.T) {
	src := files("p", "old", "q", "old too", "d/x", "file", "other", "")
	takes := task("a", 99, "p q d/x", "o = cat(in(p),in(q),in(d/x))")
	wantTree(t, takes, src, "o", "oldold toofile")
	wantTree(t, takes+task("z", 99, "", `p = "new"`), src, "o", "newold toofile", "p", "new")
	wantTree(t, task("z", 99, "p", `q = cat(in(p),"!")`)+takes, src, "o", "oldold!file", "q", "old!")
	wantTree(t, takes+task("z", 99, "", `d/x = ""`, `q = ""`), src, "d/x", "", "o", "old", "q", "")
	// An output may be of a path that makes no tree with the source's.
	wantTree(t, takes+task("z", 99, "d/x", "d = in(d/x)", `p/p = ""`), src, "d", "file", "o", "oldold toofile", "p/p", "")
}

// 16.5: what is made of what is made, however the list stands.
func TestLongWay(t *testing.T) {
	var l []string
	want := files()
	for i := range api.MaxTasks {
		in, was := "src", "x"
		if i > 0 {
			in, was = fmt.Sprintf("o%03d", i-1), string(want[i-1].Data)
		}
		l = append(l, task(fmt.Sprintf("n%03d", i*77%256), 99, in, fmt.Sprintf("o%03d = key(in(%s))", i, in)))
		v, _, _ := Make(taskOf(t, task("t", 99, "i", "o = key(in(i))")), list(was))
		want = append(want, api.File{Path: fmt.Sprintf("o%03d", i), Data: v[0]})
	}
	wantDen(t, strings.Join(l, ""), files("src", "x"), want, api.Fault{})
	slices.Reverse(l)
	wantDen(t, strings.Join(l, ""), files("src", "x"), want, api.Fault{})
}

// 16.5: the order of paths is that of chapter 5, whatever task makes them.
func TestOrderOfFiles(t *testing.T) {
	rising := []string{"-", "-.", "A", "Z/a", "Z.a", "_", "a/b/c", "a/b.c", "a/b0", "a-b", "a.b", "a0", "ab/c", "ab.c", "b"}
	var manifest string
	var want []api.File
	for i, p := range rising {
		want = append(want, api.File{Path: p, Data: []byte{byte('a' + i)}})
	}
	for i := range rising {
		f := want[i*4%len(want)]
		manifest += task(fmt.Sprint("t", i), 9, "", fmt.Sprintf("%s = \"%s\"", f.Path, f.Data))
	}
	wantDen(t, manifest, nil, want, api.Fault{})
	var outs []string
	for i := range 8 {
		outs = append(outs, fmt.Sprintf("%s = \"%s\"", want[i*5%8].Path, want[i*5%8].Data))
	}
	wantDen(t, task("t", 99, "", outs...), nil, want[:8], api.Fault{})
}

// 16.5, 16.6: the first fault in the order is told, in whatever level the tasks are.
func TestFirstFault(t *testing.T) {
	fails, in := `fail("")`, func(p string) string { return "in(" + p + ")" }
	a, b, c := task("a", 99, "", `pa = "1"`), task("b", 99, "pa", "pb = "+in("pa")), task("c", 99, "", `pc = "1"`)
	failing := func(s string) string { // each output fails
		i := strings.Index(s, "= ")
		return s[:i] + "= " + fails + s[strings.Index(s[i:], "\nend")+i:]
	}
	for _, r := range []struct {
		manifest, name string
	}{
		{a + failing(b) + failing(c), "b"}, // b is of the second level, and comes first
		{failing(c) + failing(b) + a, "b"},
		{a + b + failing(c), "c"},
		{failing(a) + failing(b) + failing(c), "a"},
		{failing(a) + b + failing(c), "a"},
		{a + failing(b) + c, "b"},
		{task("z", 99, "", `pa = "1"`) + failing(b) + failing(c), "c"}, // now b waits for z
		{task("z", 99, "", `pa = "1"`) + failing(b) + c, "b"},
		{task("z", 99, "", `pa = `+fails) + failing(b) + c, "z"},
	} {
		wantFault(t, r.manifest, nil, api.Fault{Err: api.ErrFailed, Task: r.name})
	}
	deep := ""
	for i := range 9 {
		deep += task(fmt.Sprint("a", i), 99, fmt.Sprint("p", i), fmt.Sprintf("p%d = in(p%d)", i+1, i))
	}
	for _, r := range []struct {
		manifest, name string
	}{
		{deep + task("a9", 99, "p9", "o = "+fails) + task("b", 99, "", "x = "+fails), "a9"},
		{deep + task("aa", 99, "p9", "o = "+fails) + task("a9", 99, "", "x = "+fails), "a9"},
		{deep + task("a9", 99, "p9", "o = in(p9)") + task("b", 99, "", "x = "+fails), "b"},
		{deep + task("c", 99, "p9", "o = "+fails) + task("b", 99, "p1", "x = "+fails), "b"},
	} {
		wantFault(t, r.manifest, files("p0", ""), api.Fault{Err: api.ErrFailed, Task: r.name})
	}
}

// 16.5: each error of a run, with the task.
func TestFaultsOfRuns(t *testing.T) {
	for _, r := range []struct {
		term string
		err  api.Errno
	}{
		{`fail("")`, api.ErrFailed}, {`in(src)`, api.ErrUnknown}, {`in(o)`, api.ErrUnknown}, {`in(p)`, api.ErrUnknown}, {`var(x)`, api.ErrUnknown},
		{`replace("a","","b")`, api.ErrEmpty}, {`cat(in(f),"x")`, api.ErrValue}, {`each(l,in(f),each(m,in(f),""))`, api.ErrBudget}, {`sort(in(f))`, api.ErrValue},
	} {
		manifest := task("t", 90000, "f", `p = ""`, "o = "+r.term) + task("u", 9, "", `src = ""`)
		src := fat(api.MaxFile)
		if r.err == api.ErrBudget {
			src[0].Data = []byte(strings.Repeat("\n", 500))
		}
		wantFault(t, manifest, append(src, files("src", "")...), api.Fault{Err: r.err, Task: "t"})
	}
}

// 16.5: all outputs together have MaxTotal bytes, or more: that is the fault of the task, in the order, that brings too many.
func TestMostBytes(t *testing.T) {
	src := fat(api.MaxFile)
	full := crowd("m", 16, "f", "o", "in(f)") // 128 outputs, of 2 to the 25 bytes
	var want []api.File
	for i := range 128 {
		want = append(want, api.File{Path: fmt.Sprint("o", i), Data: src[0].Data})
	}
	slices.SortFunc(want, func(a, b api.File) int { return strings.Compare(a.Path, b.Path) })
	wantDen(t, full, src, want, api.Fault{})
	wantDen(t, full+task("z", 9, "", `z = ""`), src, append(want, api.File{Path: "z"}), api.Fault{})
	wantFault(t, full+task("z", 9, "", `z = "1"`), src, api.Fault{Err: api.ErrTree, Task: "z"})
	wantFault(t, full+task("z", 9, "", `x = ""`, `y = "1"`, `z = ""`)+task("zz", 9, "", `zz = fail("")`), src, api.Fault{Err: api.ErrTree, Task: "z"})
	wantFault(t, full+task("a", 9, "", `z = "1"`), src, api.Fault{Err: api.ErrTree, Task: "m015"})
	// A run that fails is the fault, ahead of what its outputs would be.
	wantFault(t, full+task("z", 99, "", `y = "1"`, `z = fail("")`), src, api.Fault{Err: api.ErrFailed, Task: "z"})
	// One byte less, and one that a task of a later level brings ahead of the others.
	less := strings.Replace(full, "= in(f)", "= in(g)", 1)
	src = append(src, api.File{Path: "g", Data: src[0].Data[1:]})
	less = strings.Replace(less, "in f\n", "in f g\n", 1)
	way := task("a", 9, "", `p = ""`) + task("b", 9, "p", `q = ""`)
	if _, fault := Den(less+way+task("c", 9, "q", `c = "1"`), src); fault != (api.Fault{}) {
		t.Errorf("16.5: %v", fault)
	}
	wantFault(t, less+way+task("c", 9, "q", `c = "12"`), src, api.Fault{Err: api.ErrTree, Task: "m015"})
	wantFault(t, less+way+task("c", 9, "q", `c = "12"`)+task("d", 9, "c", `d = fail("")`), src, api.Fault{Err: api.ErrFailed, Task: "d"})
	wantFault(t, less+way+task("c", 9, "q", `c = "12"`)+task("z", 9, "q", `d = fail("")`), src, api.Fault{Err: api.ErrTree, Task: "m015"})
}

// 16.5: a directory of MaxDir names, or of more.
func TestMostNames(t *testing.T) {
	for _, dir := range []string{"n", "d/n", "d/e/n"} {
		full := crowd("m", 128, "", dir, `""`)
		if l, fault := Den(full, nil); len(l) != api.MaxDir || fault != (api.Fault{}) {
			t.Errorf("16.5: %d files, %v", len(l), fault)
		}
		for _, p := range []string{dir, dir + "/x", dir + "/x/y"} {
			wantFault(t, full+task("z", 9, "", p+` = ""`), nil, api.Fault{Err: api.ErrTree, Task: "z"})
			wantFault(t, full+task("a", 9, "", p+` = ""`), nil, api.Fault{Err: api.ErrTree, Task: "m127"})
			wantFault(t, full+task("z", 9, "", `x = ""`, p+` = ""`)+task("y", 9, "", `y = fail("")`), nil, api.Fault{Err: api.ErrFailed, Task: "y"})
			wantFault(t, full+task("z", 9, "", `x = fail("")`, p+` = ""`), nil, api.Fault{Err: api.ErrFailed, Task: "z"})
		}
		if dir != "n" {
			if l, fault := Den(full+task("z", 9, "", `n = ""`), nil); len(l) != api.MaxDir+1 || fault != (api.Fault{}) {
				t.Errorf("16.5: %d files, %v", len(l), fault)
			}
		}
	}
	// Directories are names too.
	wantFault(t, crowd("m", 127, "", "n", `""`)+task("n", 99, "", numbered("x", 0, 8, `""`)...)+task("z", 9, "", `d/e/f = ""`), nil, api.Fault{Err: api.ErrTree, Task: "z"})
	wantFault(t, task("a", 9, "", `d/e/f = ""`, `d/e/g = ""`)+crowd("m", 128, "", "n", `""`), nil, api.Fault{Err: api.ErrTree, Task: "m127"})
}

// 16.5, 16.6: many bytes and tasks that fail, by chance in any level, against the plain reading.
func TestFatAsRead(t *testing.T) {
	came := map[api.Errno]int{}
	for seed := range int64(24) {
		c := newChance(seed, 1)
		src := fat(api.MaxFile)
		manifest := ""
		for i := range 40 {
			x := task(fmt.Sprintf("%c%02d", 'a'+c.Intn(20), i), api.MaxBudget, "f", numbered(fmt.Sprint("o", i, "/"), 0, c.Intn(7), "in(f)")...)
			outs := `x` + fmt.Sprint(i) + ` = "1"`
			if c.Intn(40) == 0 {
				outs = `x` + fmt.Sprint(i) + ` = fail("1")`
			}
			x = strings.Replace(x, "end\n", "out "+outs+"\nend\n", 1)
			if i > 0 {
				x = strings.Replace(x, "in f\n", fmt.Sprintf("in f x%d\n", max(0, i-1-c.Intn(8))), 1)
			}
			manifest += x
		}
		want, fault := denPlainly(manifest, src)
		came[fault.Err]++
		wantDen(t, manifest, src, want, fault)
	}
	for _, err := range []api.Errno{api.OK, api.ErrTree, api.ErrFailed} {
		if came[err] < 3 {
			t.Errorf("by chance %d came only %d times", err, came[err])
		}
	}
}
