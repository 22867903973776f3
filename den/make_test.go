package den

import (
	"fmt"
	"math"
	"slices"
	"strings"
	"testing"

	"kiln/api"
	"kiln/parse"
	"kiln/term"
)

// taskOf: the one task of a text.
func taskOf(t *testing.T, text string) api.Task {
	t.Helper()
	l, err, line := parse.Manifest(text)
	if err != api.OK || len(l) != 1 {
		t.Fatalf("%q: %d on line %d", text, err, line)
	}
	return l[0]
}

// list: byte strings.
func list(texts ...string) [][]byte {
	var l [][]byte
	for _, s := range texts {
		l = append(l, []byte(s))
	}
	return l
}

func wantMake(t *testing.T, x api.Task, ins [][]byte, steps int, values ...string) {
	t.Helper()
	v, n, err := Make(x, ins)
	if !slices.EqualFunc(v, values, func(b []byte, s string) bool { return string(b) == s }) || n != steps || err != api.OK {
		t.Errorf("16.3: Make(%v, %.100q) = %.100q, %d, %d, want %.100q, %d, OK", x, ins, v, n, err, values, steps)
	}
}

func wantNotMade(t *testing.T, x api.Task, ins [][]byte, want api.Errno) {
	t.Helper()
	if v, n, err := Make(x, ins); len(v) != 0 || n != 0 || err != want {
		t.Errorf("16.3: Make(%v, %.100q) = %.100q, %d, %d, want nothing, 0, %d", x, ins, v, n, err, want)
	}
}

// 16.3: ErrArg, if there are more or fewer inputs than the task has, whatever else is wrong.
func TestMakeArgs(t *testing.T) {
	all := list("1", "2", "3", "4", "5", "6", "7", "8", "9")
	for n := range 8 {
		x := api.Task{Name: "t", Budget: 9, In: strings.Split("abcdefgh", "")[:n], Out: []api.Output{{Path: "o", Term: api.Term{Kind: api.TText}}}}
		broken := api.Task{Name: "/", Budget: -1, In: x.In, Out: []api.Output{{Path: "/"}}}
		for m := range 10 {
			if n == m {
				wantMake(t, x, all[:m], 1, "")
				wantNotMade(t, broken, all[:m], api.ErrBudget)
			} else {
				wantNotMade(t, x, all[:m], api.ErrArg)
				wantNotMade(t, broken, all[:m], api.ErrArg)
			}
		}
	}
	wantNotMade(t, api.Task{}, list(""), api.ErrArg)
	wantNotMade(t, api.Task{In: []string{"a"}}, nil, api.ErrArg)
	wantMake(t, api.Task{}, nil, 0)
	wantMake(t, api.Task{}, [][]byte{}, 0)
	wantMake(t, api.Task{In: []string{"a"}, Budget: math.MinInt}, list("1"), 0)
}

// 16.3: inputs are told apart by their paths, in the order of the task; of several with one path the first counts.
func TestMakeInputs(t *testing.T) {
	x := taskOf(t, task("t", 99, "b a c", "o = in(a)", "p = cat(in(b), in(c))"))
	wantMake(t, x, list("1", "2", "3"), 2+6, "2", "13")
	wantMake(t, x, list("3", "2", "1"), 2+6, "2", "31")
	wantMake(t, x, [][]byte{nil, {}, nil}, 1+3, "", "")
	x.In = []string{"b", "a", "a", "b", "c", "a"}
	wantMake(t, x, list("1", "2", "3", "4", "5", "6"), 2+6, "2", "15")
	x.In = []string{"/", "", "a b"} // a task that no manifest says
	x.Out = []api.Output{{Term: api.Term{Kind: api.TIn}}, {Term: api.Term{Kind: api.TIn, Text: "/"}}, {Term: api.Term{Kind: api.TIn, Text: "a b"}}}
	wantMake(t, x, list("1", "2", "3"), 6, "2", "1", "3")
}

// 16.3: outputs are run over the inputs alone: none of the task's outputs is one.
func TestMakeOutputsAreNoInputs(t *testing.T) {
	wantNotMade(t, taskOf(t, task("t", 99, "", `o = "1"`, "p = in(o)")), nil, api.ErrUnknown)
	wantNotMade(t, taskOf(t, task("t", 99, "", "o = in(p)", `p = "1"`)), nil, api.ErrUnknown)
	wantNotMade(t, taskOf(t, task("t", 99, "a", "o = in(b)")), list("1"), api.ErrUnknown)
	wantMake(t, taskOf(t, task("t", 99, "o", `o = "1"`, "p = in(o)")), list("2"), 4, "1", "2")
}

// 16.3: all outputs share one budget, from the first on, and the first error is the answer.
func TestMakeBudget(t *testing.T) {
	text := []string{`o = "1"`, `p = cat("1","2")`, `q = ""`, `r = upper("a")`} // 2, 6, 1, 5 steps
	x := taskOf(t, task("t", 1, "", text...))
	for budget := -2; budget < 20; budget++ {
		x.Budget = budget
		if budget >= 14 {
			wantMake(t, x, nil, 14, "1", "12", "", "A")
		} else {
			wantNotMade(t, x, nil, api.ErrBudget)
		}
	}
	for _, budget := range []int{math.MaxInt, 1 << 40, api.MaxBudget + 1} {
		x.Budget = budget
		wantMake(t, x, nil, 14, "1", "12", "", "A")
	}
	for _, budget := range []int{math.MinInt, math.MinInt + 1, 0} {
		x.Budget = budget
		wantNotMade(t, x, nil, api.ErrBudget)
	}
	for _, r := range []struct {
		budget int
		outs   []string
		want   api.Errno
	}{
		{99, []string{`o = fail("")`, `p = in(x)`}, api.ErrFailed},
		{99, []string{`o = in(x)`, `p = fail("")`}, api.ErrUnknown},
		{99, []string{`o = "1"`, `p = count("","")`, `q = fail("")`}, api.ErrEmpty},
		{4, []string{`o = "1"`, `p = fail("")`}, api.ErrFailed},
		{3, []string{`o = "1"`, `p = fail("")`}, api.ErrBudget},
		{2, []string{`o = "1"`, `p = ""`}, api.ErrBudget},
		{1, []string{`o = "1"`, `p = fail("")`}, api.ErrBudget},
	} {
		wantNotMade(t, taskOf(t, task("t", r.budget, "", r.outs...)), nil, r.want)
	}
	long := taskOf(t, task("t", api.MaxBudget, "f", "o = in(f)", "p = cat(in(f),\"x\")"))
	wantNotMade(t, long, [][]byte{make([]byte, api.MaxFile)}, api.ErrValue)
	wantMake(t, long, [][]byte{make([]byte, api.MaxFile-1)}, 3*(1+4096)+2, strings.Repeat("\x00", api.MaxFile-1), strings.Repeat("\x00", api.MaxFile-1)+"x")
	wantNotMade(t, long, [][]byte{make([]byte, api.MaxFile+1)}, api.ErrValue)
}

// 16.3: as many outputs as one likes, of one path too, each with what is left.
func TestMakeMany(t *testing.T) {
	x := api.Task{Budget: 5000}
	var want []string
	for i := range 2000 {
		want = append(want, fmt.Sprint(i))
		x.Out = append(x.Out, api.Output{Path: "o", Term: api.Term{Kind: api.TText, Text: want[i]}})
	}
	wantMake(t, x, nil, 4000, want...)
	x.Budget = 4000
	wantMake(t, x, nil, 4000, want...)
	x.Budget = 3999
	wantNotMade(t, x, nil, api.ErrBudget)
}

// 16.3: chance tasks, against the plain reading, with each budget that is near.
func TestMakeAsRead(t *testing.T) {
	for seed := range int64(3000) {
		c := newChance(seed, []int{0, 2}[seed%2])
		for _, x := range c.tasks(4) {
			var ins [][]byte
			for range x.In {
				ins = append(ins, c.bytes())
			}
			steps := 0
			for _, o := range x.Out {
				var all []api.File
				for i, p := range x.In {
					all = append(all, api.File{Path: p, Data: ins[i]})
				}
				_, n, _ := term.Run(o.Term, all, math.MaxInt)
				steps += n
			}
			for _, budget := range []int{x.Budget, steps, steps - 1, c.Intn(steps + 1)} {
				x.Budget = budget
				values, n, err := makePlainly(x, ins)
				if err != api.OK {
					wantNotMade(t, x, ins, err)
					continue
				}
				var texts []string
				for _, v := range values {
					texts = append(texts, string(v))
				}
				wantMake(t, x, ins, n, texts...)
			}
		}
	}
}
