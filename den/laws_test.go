package den

import (
	"fmt"
	"math"
	"slices"
	"strings"
	"testing"

	"kiln/api"
	"kiln/parse"
	"kiln/term"
	"kiln/token"
)

// wantSame: two answers of Den are one.
func wantSame(t *testing.T, law string, a []api.File, f api.Fault, b []api.File, g api.Fault) {
	t.Helper()
	if !same(a, b) || f != g {
		t.Fatalf("%s: %s, %v; but %s, %v", law, shown(a), f, shown(b), g)
	}
}

// rewritten: a manifest that can be cut into tokens, with other blanks, with remarks, and, if there may be other lines, with blank ones.
func rewritten(t *testing.T, c chance, manifest string, lines bool) string {
	t.Helper()
	row, err, _, _ := token.Tokens(manifest)
	if err != api.OK {
		t.Fatalf("%q: %d", manifest, err)
	}
	var b strings.Builder
	blank := func() { b.WriteString(strings.Repeat(" ", c.Intn(3))) }
	for i, x := range row {
		blank()
		switch x.Kind {
		case api.KEnd:
			b.WriteString(one(c, "", "#", "# end", " # \"", "#\x00\xff '") + "\n")
			if lines {
				b.WriteString(one(c, "", "\n", "   \n", "# end\n\n"))
			}
		case api.KLiteral:
			b.WriteString(token.Quote(x.Text))
		case api.KWord:
			if i > 0 && row[i-1].Kind == api.KWord {
				b.WriteByte(' ')
			}
			b.WriteString(x.Text)
		default:
			b.WriteByte(map[int]byte{api.KEqual: '=', api.KLeft: '(', api.KRight: ')', api.KComma: ','}[x.Kind])
		}
	}
	return b.String()
}

// 16.7: remarks and blanks turn nothing, also where the manifest can't be read; of blank lines that holds but for the line.
func TestRemarks(t *testing.T) {
	came := map[api.Errno]int{}
	for seed := range int64(2000) {
		c := newChance(seed, []int{0, 1}[seed%2])
		manifest, src := c.manifest(8), c.source()
		if _, err, _, _ := token.Tokens(manifest); err != api.OK {
			continue
		}
		l, f := Den(manifest, src)
		m, g := Den(rewritten(t, c, manifest, false), src)
		wantSame(t, "16.7", l, f, m, g)
		m, g = Den(rewritten(t, c, manifest, true), src)
		f.Line, g.Line = 0, 0
		wantSame(t, "16.7", l, f, m, g)
		came[f.Err]++
	}
	for _, err := range []api.Errno{api.OK, api.ErrWord, api.ErrNeed, api.ErrFailed} {
		if came[err] < 10 {
			t.Errorf("by chance %d came only %d times", err, came[err])
		}
	}
}

// 16.7: files of the source that no task has as an input turn nothing, nor does their order, nor what was asked before.
func TestOtherFiles(t *testing.T) {
	more := files("in.in", "more", "nobody/takes/it", "more", "b/x", "", "Z/z", "more", "a.a", "more")
	for seed := range int64(2000) {
		c := newChance(seed, []int{0, 1}[seed%2])
		manifest, src := c.manifest(10), c.source()
		if _, err := Source(src); err != api.OK {
			continue
		}
		l, f := Den(manifest, src)
		m, g := Den(manifest, shuffled(c, src...))
		wantSame(t, "16.7", l, f, m, g)
		m, g = Den(manifest, shuffled(c, append(slices.Clone(more), src...)...))
		wantSame(t, "16.7", l, f, m, g)
		tasks, _, _ := parse.Manifest(manifest)
		var taken []api.File
		for _, file := range src {
			if slices.ContainsFunc(tasks, func(x api.Task) bool { return slices.Contains(x.In, file.Path) }) {
				taken = append(taken, file)
			}
		}
		m, g = Den(manifest, taken)
		wantSame(t, "16.7", l, f, m, g)
		m, g = Den(manifest, src)
		wantSame(t, "16.7", l, f, m, g)
	}
}

// 16.8: tasks in another order mean the same tree, or the same fault but for its line.
func TestOtherOrder(t *testing.T) {
	came := map[api.Errno]int{}
	for seed := range int64(2000) {
		c := newChance(seed, []int{0, 1, 3}[seed%3])
		tasks, src := c.tasks(12), c.source()
		if _, err := Source(src); err != api.OK {
			continue
		}
		manifest := text(tasks)
		if _, err, _ := parse.Manifest(manifest); err != api.OK {
			t.Fatal(manifest)
		}
		l, f := Den(manifest, src)
		for range 3 {
			m, g := Den(text(shuffled(c, tasks...)), src)
			wantSame(t, "16.8", l, f, m, g)
		}
		came[f.Err]++
	}
	for _, err := range []api.Errno{api.OK, api.ErrCycle, api.ErrNeed, api.ErrBudget, api.ErrFailed, api.ErrUnknown} {
		if came[err] < 10 {
			t.Errorf("by chance %d came only %d times", err, came[err])
		}
	}
}

// 16.9: what Den tells is a tree of all outputs: each is the value of its term over its task's inputs, and no longer than a file may be.
func TestItIsATree(t *testing.T) {
	trees := 0
	for seed := range int64(2000) {
		c := newChance(seed, []int{0, 4}[seed%2])
		tasks, src := c.tasks(12), c.source()
		l, f := Den(text(tasks), src)
		if f != (api.Fault{}) {
			continue
		}
		trees++
		all := map[string][]byte{}
		for _, file := range src {
			all[file.Path] = file.Data
		}
		for i, file := range l {
			for _, other := range l[:i] {
				if begins(file.Path, other.Path) || begins(other.Path, file.Path) {
					t.Fatalf("16.9: %s and %s", file.Path, other.Path)
				}
			}
			if len(file.Data) > api.MaxFile {
				t.Fatalf("16.9: %s has %d bytes", file.Path, len(file.Data))
			}
			all[file.Path] = file.Data
		}
		outs := 0
		for _, x := range tasks {
			var ins []api.File
			for _, p := range x.In {
				ins = append(ins, api.File{Path: p, Data: all[p]})
			}
			for _, o := range x.Out {
				outs++
				if v, _, err := term.Run(o.Term, ins, math.MaxInt); err != api.OK || string(v) != string(all[o.Path]) {
					t.Fatalf("16.9: %s is %q, and its term's value %q, %d", o.Path, all[o.Path], v, err)
				}
			}
		}
		if outs != len(l) {
			t.Fatalf("16.9: %d files of %d outputs", len(l), outs)
		}
	}
	if trees < 1000 {
		t.Errorf("by chance there were only %d trees", trees)
	}
}

// 16.10: Side is Den, with any number of workers, again and again.
func TestSideIsDen(t *testing.T) {
	for seed := range int64(300) {
		c := newChance(seed, []int{0, 1, 3}[seed%3])
		manifest, src := c.manifest(13), c.source()
		l, f := Den(manifest, src)
		for workers := 1; workers <= 16; workers++ {
			m, g := Side(nil, workers, manifest, src)
			wantSame(t, "16.10", l, f, m, g)
		}
	}
}

// 16.10: the same of as many tasks as there may be, in levels of any width, with tasks that fail in many places.
func TestSideIsDenOfMany(t *testing.T) {
	came := map[api.Errno]int{}
	for seed := range int64(60) {
		c := newChance(seed, 1)
		fails := one(c, 0, 10, 100) // about how many
		var l []string
		for i, name := range c.Perm(api.MaxTasks) {
			ins, value := []string{"src"}, fmt.Sprintf("\"%d\"", i)
			for range min(i, c.Intn(4)) {
				ins = append(ins, fmt.Sprint("o", c.Intn(i)))
			}
			slices.Sort(ins)
			ins = slices.Compact(ins)
			value = fmt.Sprintf("cat(%s,in(%s))", value, one(c, ins...))
			if c.Intn(api.MaxTasks) < fails {
				value = "fail(" + value + ")"
			}
			l = append(l, task(fmt.Sprintf("%03d", name), 9000, strings.Join(ins, " "), fmt.Sprintf("o%d = %s", i, value)))
		}
		manifest := strings.Join(shuffled(c, l...), "")
		want, f := denPlainly(manifest, files("src", ""))
		came[f.Err]++
		wantDen(t, manifest, files("src", ""), want, f)
	}
	if came[api.OK] < 5 || came[api.ErrFailed] < 5 {
		t.Errorf("by chance: %v", came)
	}
}
