package den

import (
	"bytes"
	"fmt"
	"math/rand"
	"slices"
	"strings"

	"kiln/api"
	"kiln/graph"
	"kiln/parse"
	"kiln/path"
	"kiln/term"
)

// begins: whether a path is another one, or begins it, name by name.
func begins(a, b string) bool {
	x, y := strings.Split(a, "/"), strings.Split(b, "/")
	return len(x) <= len(y) && slices.Equal(x, y[:len(x)])
}

// apart: whether a path has nothing to do with any of these.
func apart(p string, l []string) bool {
	return !slices.ContainsFunc(l, func(q string) bool { return begins(p, q) || begins(q, p) })
}

// sourcePlainly: 16.1.
func sourcePlainly(src []api.File) (int, api.Errno) {
	var ahead []string
	for i, f := range src {
		_, err, _ := path.Parse(f.Path)
		if err != api.OK || len(f.Data) > 262144 || i >= 4096 || !apart(f.Path, ahead) {
			return i, api.ErrSource
		}
		ahead = append(ahead, f.Path)
	}
	return 0, api.OK
}

// planPlainly: 16.2.
func planPlainly(manifest string, src []api.File) ([]api.Task, []int, api.Fault) {
	if place, err := sourcePlainly(src); err != api.OK {
		return nil, nil, api.Fault{Err: err, Place: place}
	}
	tasks, err, line := parse.Manifest(manifest)
	if err != api.OK {
		return nil, nil, api.Fault{Err: err, Line: line}
	}
	order, err, name := graph.Order(tasks)
	if err != api.OK {
		return nil, nil, api.Fault{Err: err, Task: name}
	}
	for _, i := range order {
		for _, in := range tasks[i].In {
			is := slices.ContainsFunc(src, func(f api.File) bool { return f.Path == in })
			for _, x := range tasks {
				is = is || slices.ContainsFunc(x.Out, func(o api.Output) bool { return o.Path == in })
			}
			if !is {
				return nil, nil, api.Fault{Err: api.ErrNeed, Task: tasks[i].Name}
			}
		}
	}
	return tasks, order, api.Fault{}
}

// makePlainly: 16.3.
func makePlainly(x api.Task, ins [][]byte) ([][]byte, int, api.Errno) {
	if len(ins) != len(x.In) {
		return nil, 0, api.ErrArg
	}
	var files []api.File
	for i, p := range x.In {
		if !slices.Contains(x.In[:i], p) {
			files = append(files, api.File{Path: p, Data: ins[i]})
		}
	}
	var values [][]byte
	left, all := x.Budget, 0
	for _, o := range x.Out {
		v, steps, err := term.Run(o.Term, files, left)
		if err != api.OK {
			return nil, 0, err
		}
		left, all, values = left-steps, all+steps, append(values, v)
	}
	return values, all, api.OK
}

// plainTally: 16.4.
type plainTally struct {
	paths []string
	bytes int
}

func (a *plainTally) add(p string, n int) api.Errno {
	if _, err, _ := path.Parse(p); err != api.OK {
		return api.ErrPath
	}
	if n < 0 || !apart(p, a.paths) || n > 33554432 || a.bytes+n > 33554432 {
		return api.ErrTree
	}
	names := map[string]map[string]bool{} // by a directory, all that is in it
	for _, q := range append(slices.Clone(a.paths), p) {
		l := strings.Split(q, "/")
		for i, name := range l {
			dir := strings.Join(l[:i], "/")
			if names[dir] == nil {
				names[dir] = map[string]bool{}
			}
			names[dir][name] = true
		}
	}
	for _, l := range names {
		if len(l) > 1024 {
			return api.ErrTree
		}
	}
	a.paths, a.bytes = append(a.paths, p), a.bytes+n
	return api.OK
}

// denPlainly: 16.5.
func denPlainly(manifest string, src []api.File) ([]api.File, api.Fault) {
	tasks, order, fault := planPlainly(manifest, src)
	if fault != (api.Fault{}) {
		return nil, fault
	}
	var outs []api.File
	var a plainTally
	for _, i := range order {
		var ins [][]byte
		for _, in := range tasks[i].In {
			for _, f := range append(slices.Clone(outs), src...) {
				if f.Path == in {
					ins = append(ins, f.Data)
					break
				}
			}
		}
		values, _, err := makePlainly(tasks[i], ins)
		if err != api.OK {
			return nil, api.Fault{Err: err, Task: tasks[i].Name}
		}
		for k, o := range tasks[i].Out {
			if err := a.add(o.Path, len(values[k])); err != api.OK {
				return nil, api.Fault{Err: err, Task: tasks[i].Name}
			}
			outs = append(outs, api.File{Path: o.Path, Data: values[k]})
		}
	}
	slices.SortStableFunc(outs, func(a, b api.File) int {
		return slices.Compare(strings.Split(a.Path, "/"), strings.Split(b.Path, "/"))
	})
	return outs, api.Fault{}
}

// same: whether two lists of files are the same.
func same(a, b []api.File) bool {
	return slices.EqualFunc(a, b, func(x, y api.File) bool { return x.Path == y.Path && bytes.Equal(x.Data, y.Data) })
}

// chance makes sources and manifests.
type chance struct {
	*rand.Rand
	wrong int // one of so many things may be wrong; 0: none
}

func newChance(seed int64, wrong int) chance { return chance{rand.New(rand.NewSource(seed)), wrong} }

func one[T any](c chance, l ...T) T { return l[c.Intn(len(l))] }

func shuffled[T any](c chance, l ...T) []T {
	l = slices.Clone(l)
	c.Shuffle(len(l), func(i, j int) { l[i], l[j] = l[j], l[i] })
	return l
}

// errs: whether something is to be wrong.
func (c chance) errs() bool { return c.wrong > 0 && c.Intn(c.wrong) == 0 }

func (c chance) bytes() []byte {
	b := make([]byte, one(c, c.Intn(4), c.Intn(8), c.Intn(200)))
	for i := range b {
		b[i] = "ab\nab\nAz\x00\xff"[c.Intn(10)]
	}
	return b
}

// given: the paths of sources. Two of them may be outputs too.
var given = []string{"in", "d/in", "d/e/in", "d.in", "x", "out/1", "out/b.1"}

// made: the paths of outputs.
var made = []string{"a", "b.1", "b/1", "b/2", "b/c/d", "b-", "out/1", "out/b.1", "out/b/1", "Z", "_", "0", "x.x", "x/x", "q/r/s/t", "q/r/s.t", "q/r0"}

// source: some of these files, and others.
func (c chance) source() []api.File {
	var l []api.File
	for _, p := range shuffled(c, given...) {
		if c.wrong == 0 || c.Intn(9) > 0 {
			l = append(l, api.File{Path: p, Data: c.bytes()})
		}
	}
	if c.wrong > 0 && c.Intn(20*c.wrong) == 0 {
		l = append(l, api.File{Path: one(c, "in", "d", "d/in/x", "", "/", "x/x", "new")})
		l = shuffled(c, l...)
	}
	return l
}

// value: a term over these inputs, at most so deep.
func (c chance) value(deep int, ins []string) api.Term {
	if c.Intn(8) == 0 && c.errs() {
		return one(c, api.Term{Kind: api.TFail, Args: []api.Term{{Kind: api.TText}}}, api.Term{Kind: api.TIn, Text: "nowhere"}, api.Term{Kind: api.TVar, Text: "l"}, api.Term{Kind: api.TCount, Args: []api.Term{{Kind: api.TText}, {Kind: api.TText}}})
	}
	if deep <= 1 || c.Intn(3) == 0 {
		if len(ins) > 0 && c.Intn(4) > 0 {
			return api.Term{Kind: api.TIn, Text: one(c, ins...)}
		}
		return api.Term{Kind: api.TText, Text: string(c.bytes())}
	}
	x := api.Term{Kind: one(c, api.TCat, api.TUpper, api.TLower, api.TSort, api.TUniq, api.TIf, api.TKey)}
	args := 1
	switch x.Kind {
	case api.TCat:
		args = 1 + c.Intn(3)
	case api.TIf:
		args = 3
	}
	for range args {
		x.Args = append(x.Args, c.value(deep-1, ins))
	}
	return x
}

// tasks: up to so many; each takes in what those made by chance ahead of it make, but where something is wrong. Their names, and so their order, have nothing to do with that.
func (c chance) tasks(most int) []api.Task {
	names, outs := shuffled(c, "a", "b", "c", "d", "e", "f", "g", "h", "A", "Z", "0", "9", "..."), shuffled(c, made...)
	var tasks []api.Task
	var ready []string
	for _, p := range given {
		if !slices.Contains(made, p) {
			ready = append(ready, p)
		}
	}
	for _, name := range names[:c.Intn(most+1)] {
		if len(outs) == 0 {
			break
		}
		x := api.Task{Name: name, Budget: one(c, 1000, 5000, api.MaxBudget)}
		if c.Intn(2) == 0 && c.errs() {
			x.Budget = 1 + c.Intn(12)
		}
		x.In = shuffled(c, ready...)[:c.Intn(min(4, len(ready)))]
		if p := one(c, slices.Concat(outs, []string{"nowhere", "b"})...); c.Intn(8) == 0 && c.errs() {
			x.In = append(x.In, p)
		}
		n := min(1+c.Intn(3), len(outs))
		for _, p := range outs[:n] {
			x.Out = append(x.Out, api.Output{Path: p, Term: c.value(1+c.Intn(4), x.In)})
		}
		ready, outs = append(ready, outs[:n]...), outs[n:]
		tasks = append(tasks, x)
	}
	return shuffled(c, tasks...)
}

// text: a manifest of these tasks.
func text(tasks []api.Task) string {
	s, err := parse.Text(tasks)
	if err != api.OK {
		panic(fmt.Sprint("no manifest says ", tasks))
	}
	return s
}

// manifest: mostly one that can be read.
func (c chance) manifest(most int) string {
	s := text(c.tasks(most))
	if c.wrong > 0 && c.Intn(10*c.wrong) == 0 && len(s) > 0 {
		at := c.Intn(len(s))
		return s[:at] + one(c, "", "x", " ", "\n", "(", "\"") + s[at+1:]
	}
	return s
}
