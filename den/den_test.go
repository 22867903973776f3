package den

import (
	"fmt"
	"reflect"
	"slices"
	"strings"
	"testing"

	"kiln/api"
	"kiln/graph"
	"kiln/parse"
)

// sorts: the manifest of the chapter's examples.
const sorts = "task t 100\nin in\nout o = sort(in(in))\nend\n"

// files: with these paths and bytes, by turns.
func files(pairs ...string) []api.File {
	var l []api.File
	for i := 0; i < len(pairs); i += 2 {
		l = append(l, api.File{Path: pairs[i], Data: []byte(pairs[i+1])})
	}
	return l
}

func example() []api.File { return files("in", "b\na\n") }

// task: a task's text; its inputs parted by blanks, its outputs as they stand behind the word out.
func task(name string, budget int, ins string, outs ...string) string {
	s := fmt.Sprintf("task %s %d\n", name, budget)
	if ins != "" {
		s += "in " + ins + "\n"
	}
	for _, o := range outs {
		s += "out " + o + "\n"
	}
	return s + "end\n"
}

// shown: what a message can show of files.
func shown(l []api.File) string {
	var s []string
	for _, f := range l {
		s = append(s, fmt.Sprintf("%s: %.40q (%d bytes)", f.Path, f.Data, len(f.Data)))
	}
	return fmt.Sprintf("%d files: %.600s", len(l), strings.Join(s, ", "))
}

func wantSource(t *testing.T, src []api.File, place int, want api.Errno) {
	t.Helper()
	if n, err := Source(src); n != place || err != want {
		t.Errorf("16.1: Source(%s) = %d, %d, want %d, %d", shown(src), n, err, place, want)
	}
}

// wantDen: what Den answers, and with it Side.
func wantDen(t *testing.T, manifest string, src, want []api.File, fault api.Fault) {
	t.Helper()
	if l, f := Den(manifest, src); !same(l, want) || f != fault {
		t.Fatalf("16.5: Den(%.1000q, %s) = %s, %v, want %s, %v", manifest, shown(src), shown(l), f, shown(want), fault)
	}
	for _, workers := range []int{1, 2, 7, 16} {
		if l, f := Side(nil, workers, manifest, src); !same(l, want) || f != fault {
			t.Fatalf("16.6: Side(%d workers, %.1000q, %s) = %s, %v, want %s, %v", workers, manifest, shown(src), shown(l), f, shown(want), fault)
		}
	}
}

// wantTree: Den's answer, files with these paths and bytes by turns.
func wantTree(t *testing.T, manifest string, src []api.File, pairs ...string) {
	t.Helper()
	wantDen(t, manifest, src, files(pairs...), api.Fault{})
}

// wantFault: of Den. One that Plan must tell is told by it, and of any other one Plan says nothing.
func wantFault(t *testing.T, manifest string, src []api.File, fault api.Fault) {
	t.Helper()
	wantDen(t, manifest, src, nil, fault)
	tasks, order, f := Plan(manifest, src)
	if runs := fault.Err >= api.ErrBudget && fault.Err <= api.ErrUnknown || fault.Err == api.ErrTree; runs {
		if f != (api.Fault{}) || len(order) != len(tasks) {
			t.Errorf("16.2: Plan(%.1000q) = %v", manifest, f)
		}
	} else if f != fault || len(tasks) != 0 || len(order) != 0 {
		t.Errorf("16.2: Plan(%.1000q) = %d tasks, %v, %v, want %v", manifest, len(tasks), order, f, fault)
	}
}

// wantAsRead: every call over a manifest and a source answers as the plain reading of the chapter does. It tells Den's fault.
func wantAsRead(t *testing.T, manifest string, src []api.File) api.Fault {
	t.Helper()
	place, err := sourcePlainly(src)
	wantSource(t, src, place, err)
	tasks, order, fault := planPlainly(manifest, src)
	if l, n, f := Plan(manifest, src); len(l) != len(tasks) || len(l) > 0 && !reflect.DeepEqual(l, tasks) || !slices.Equal(n, order) || f != fault {
		t.Fatalf("16.2: Plan(%q, %s) = %v, %v, %v, want %v, %v, %v", manifest, shown(src), l, n, f, tasks, order, fault)
	}
	want, fault := denPlainly(manifest, src)
	wantDen(t, manifest, src, want, fault)
	return fault
}

// The chapter's examples.
func TestExamples(t *testing.T) {
	wantTree(t, sorts, example(), "o", "a\nb\n")
	wantFault(t, strings.Replace(sorts, "in in\n", "in x\n", 1), example(), api.Fault{Err: api.ErrNeed, Task: "t"})
	wantFault(t, strings.Replace(sorts, "100", "1", 1), example(), api.Fault{Err: api.ErrBudget, Task: "t"})
	wantTree(t, "", example())
	wantTree(t, "", nil)
	wantFault(t, "task", example(), api.Fault{Err: api.ErrWord, Line: 1})
	wantSource(t, files("a", "", "a/b", ""), 1, api.ErrSource)
	done := make(chan struct{})
	close(done)
	if l, f := Side(done, 2, sorts, example()); len(l) != 0 || f != (api.Fault{Err: api.ErrStopped}) {
		t.Errorf("16.6: %s, %v", shown(l), f)
	}
}

// 16.1 to 16.6: chance manifests and sources, against the plain reading of the chapter.
func TestAsRead(t *testing.T) {
	came := map[api.Errno]int{}
	for seed := range int64(2500) {
		c := newChance(seed, []int{0, 1, 3}[seed%3])
		came[wantAsRead(t, c.manifest(12), c.source()).Err]++
	}
	for _, err := range []api.Errno{api.OK, api.ErrSource, api.ErrWord, api.ErrCycle, api.ErrNeed, api.ErrBudget, api.ErrFailed, api.ErrEmpty, api.ErrUnknown} {
		if came[err] < 20 {
			t.Errorf("by chance %d came only %d times", err, came[err])
		}
	}
}

// 16.2: of several faults the first of the chapter's order is told.
func TestFaultsInOrder(t *testing.T) {
	for bits := range 32 {
		var src []api.File
		manifest, want := "", api.Fault{}
		if bits&1 > 0 {
			manifest, want = manifest+task("f", 9, "", `r = fail("")`), api.Fault{Err: api.ErrFailed, Task: "f"}
		}
		if bits&2 > 0 {
			manifest, want = manifest+task("l", 9, "nowhere", `q = ""`), api.Fault{Err: api.ErrNeed, Task: "l"}
		}
		if bits&4 > 0 {
			manifest, want = manifest+task("u", 9, "p", `p = ""`), api.Fault{Err: api.ErrCycle, Task: "u"}
		}
		if bits&8 > 0 {
			want = api.Fault{Err: api.ErrWord, Line: strings.Count(manifest, "\n") + 2}
			manifest += "\nend\n"
		}
		if bits&16 > 0 {
			src, want = files("a", "", "b", "", "a", ""), api.Fault{Err: api.ErrSource, Place: 2}
		}
		if want.Err != api.OK {
			wantFault(t, manifest, src, want)
		}
	}
}

// 16.2: the errors of parse and of token, with their lines.
func TestNotRead(t *testing.T) {
	for _, r := range []struct {
		manifest string
		err      api.Errno
		line     int
	}{
		{strings.Repeat("#", api.MaxManifest+1), api.ErrLong, 0},
		{strings.Repeat("\n", api.MaxManifest) + "x", api.ErrLong, 0},
		{sorts + "'", api.ErrByte, 5},
		{sorts + "\"", api.ErrOpen, 5},
		{sorts + "\n\"\\q\"", api.ErrEscape, 6},
		{sorts + "task t 9", api.ErrTwice, 5},
		{sorts + "task u 9\nin x x", api.ErrIn, 6},
		{sorts + "task u 9\nout o/p = \"\"", api.ErrOut, 6},
		{sorts + "task u 9\nend", api.ErrNone, 6},
		{sorts + "task u 9\nout p = " + strings.Repeat("cat(", 64) + "\"\"", api.ErrDeep, 6},
		{strings.Repeat("\n", 9) + "task t 9\nout 1=\"\"\nout 2=\"\"\nout 3=\"\"\nout 4=\"\"\nout 5=\"\"\nout 6=\"\"\nout 7=\"\"\nout 8=\"\"\nout 9=\"\"", api.ErrCount, 19},
	} {
		wantFault(t, r.manifest, example(), api.Fault{Err: r.err, Line: r.line})
	}
	wantTree(t, sorts+strings.Repeat("#", api.MaxManifest-len(sorts)), example(), "o", "a\nb\n")
	wantFault(t, sorts+strings.Repeat("#", api.MaxManifest-len(sorts)+1), example(), api.Fault{Err: api.ErrLong})
}

// 16.2: ErrCycle with the task that is ahead of all others on one, wherever it stands.
func TestCycles(t *testing.T) {
	a, b, c := task("a", 99, "q", "p = in(q)"), task("b", 99, "r", "q = in(r)"), task("c", 99, "q", "r = in(q)")
	for _, manifest := range []string{a + b + c, c + b + a, b + a + c, b + c} {
		wantFault(t, manifest, files("p", "", "q", "", "r", ""), api.Fault{Err: api.ErrCycle, Task: "b"})
	}
	wantTree(t, a+b, files("r", "1", "q", "2"), "p", "1", "q", "1")
}

// 16.2: ErrNeed tells the first task in the order, not in the list; what may be an input is an output or a file, byte by byte.
func TestNeeds(t *testing.T) {
	b, a := task("b", 99, "nowhere", "x = in(nowhere)"), task("a", 99, "x nothing", "y = in(x)")
	for _, manifest := range []string{a + b, b + a} {
		wantFault(t, manifest, nil, api.Fault{Err: api.ErrNeed, Task: "b"})
		wantFault(t, manifest, files("nowhere", ""), api.Fault{Err: api.ErrNeed, Task: "a"})
		wantTree(t, manifest, files("nowhere", "1", "nothing", "2"), "x", "1", "y", "1")
		wantTree(t, manifest+task("c", 9, "", `nothing = ""`, `nowhere = "3"`), nil, "nothing", "", "nowhere", "3", "x", "3", "y", "3")
	}
	src := files("d/e/f", "", "g", "")
	others := task("z", 9, "", `p/q/r = ""`, `s = ""`)
	for _, in := range []string{"d", "d/e", "d/e/f/g", "d/e/F", "d/e/ff", "g/h", "G", "p", "p/q", "p/q/r/s", "s/t", "S", "d/e.f", "..."} {
		wantFault(t, others+task("t", 99, in, `o = ""`), src, api.Fault{Err: api.ErrNeed, Task: "t"})
	}
	for _, in := range []string{"d/e/f", "g", "p/q/r", "s"} {
		wantTree(t, others+task("t", 99, in, `o = "1"`), src, "o", "1", "p/q/r", "", "s", "")
	}
	var many []string
	for i := range api.MaxIns {
		many = append(many, fmt.Sprint("i", i))
	}
	for i := range many {
		var src []api.File
		for j, p := range many {
			if i != j {
				src = append(src, api.File{Path: p})
			}
		}
		manifest := task("t", 99, strings.Join(many, " "), `o = ""`)
		wantFault(t, manifest, src, api.Fault{Err: api.ErrNeed, Task: "t"})
		wantTree(t, manifest, append(src, api.File{Path: many[i]}), "o", "")
	}
}

// 16.2: with no fault the tasks as parse answers them, and the order of graph.
func TestPlan(t *testing.T) {
	manifest := task("c", 1, "a b", `x = fail("")`) + task("b", 1, "", `b = ""`, `y = in(nowhere)`) + task("a", 1, "src", `a = ""`)
	tasks, order, fault := Plan(manifest, files("src", "", "other", ""))
	want, _, _ := parse.Manifest(manifest)
	places, _, _ := graph.Order(want)
	if !reflect.DeepEqual(tasks, want) || !slices.Equal(order, []int{2, 1, 0}) || !slices.Equal(order, places) || fault != (api.Fault{}) {
		t.Errorf("16.2: %v, %v, %v", tasks, order, fault)
	}
	if tasks, order, fault := Plan("# nothing\n\n", nil); len(tasks) != 0 || len(order) != 0 || fault != (api.Fault{}) {
		t.Errorf("16.2: %v, %v, %v", tasks, order, fault)
	}
}
