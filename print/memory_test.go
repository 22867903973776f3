package print

import (
	"reflect"
	"slices"
	"strings"
	"sync"
	"testing"

	"kiln/api"
)

// roomyTerm: the same term with something in the spare room of its lists.
func roomyTerm(x api.Term) api.Term {
	l := make([]api.Term, 0, len(x.Args)+2)
	for _, a := range x.Args {
		l = append(l, roomyTerm(a))
	}
	x.Args = append(l, lit("spare"), api.Term{})[:len(x.Args)]
	return x
}

// roomy: the same of a task.
func roomy(x api.Task) api.Task {
	x.In = append(slices.Clone(x.In), "spare", "")[:len(x.In)]
	l := slices.Clone(x.Out)
	for i, o := range l {
		l[i].Term = roomyTerm(o.Term)
	}
	x.Out = append(l, out("spare", lit("room")), api.Output{})[:len(l)]
	return x
}

// openedTerm: a term with all that lies in its lists and behind them, in new memory.
func openedTerm(x api.Term) api.Term {
	x.Args = slices.Clone(x.Args[:cap(x.Args)])
	for i, a := range x.Args {
		x.Args[i] = openedTerm(a)
	}
	return x
}

// opened: the same of a task.
func opened(x api.Task) api.Task {
	x.In = slices.Clone(x.In[:cap(x.In)])
	x.Out = slices.Clone(x.Out[:cap(x.Out)])
	for i, o := range x.Out {
		x.Out[i].Term = openedTerm(o.Term)
	}
	return x
}

// 15.4: what is handed in is not changed, nor the room behind it; and that room is not looked at.
func TestHandedIn(t *testing.T) {
	for seed := range int64(2000) {
		c := newChance(seed)
		x := roomy(c.task())
		all := c.keys(len(x.In) + 3)
		keys := all[:len(x.In)]
		beforeTask, beforeKeys := opened(x), slices.Clone(all)
		wantPrint(t, x, keys, printPlainly(x, keys))
		wantErr(t, x, all, api.ErrKeys)
		x.Budget = 0
		wantErr(t, x, keys, api.ErrTask)
		x.Budget = beforeTask.Budget
		if !reflect.DeepEqual(opened(x), beforeTask) || !slices.Equal(all, beforeKeys) {
			t.Fatalf("15.4: what was handed in was changed: %s", shown(x))
		}
	}
}

// 15.4: nothing is kept: a call answers as if it were the first, and what was handed in may be written over.
func TestNothingKept(t *testing.T) {
	for seed := range int64(1000) {
		c := newChance(seed)
		x, y := c.task(), c.task()
		keys, other := c.keys(len(x.In)), c.keys(len(y.In))
		want := printPlainly(x, keys)
		wantPrint(t, x, keys, want)
		wantPrint(t, y, other, printPlainly(y, other))
		wantErr(t, y, append(other, api.Key{}), api.ErrKeys)
		wantErr(t, api.Task{}, other, api.ErrTask)
		wantPrint(t, x, keys, want)
		x.Out[0].Term = lit("another one")
		for i := range keys {
			keys[i][31]++
		}
		wantPrint(t, x, keys, printPlainly(x, keys))
	}
}

// 15.4: calls side by side, of one task and its keys, answer as one behind the other.
func TestSideBySide(t *testing.T) {
	c := newChance(6)
	var tasks []api.Task
	var keys [][]api.Key
	for range 50 {
		tasks = append(tasks, c.task())
		keys = append(keys, c.keys(len(tasks[len(tasks)-1].In)))
	}
	var all sync.WaitGroup
	for range 8 {
		all.Go(func() {
			for i, x := range tasks {
				if p, err := Fingerprint(x, keys[i]); p != printPlainly(x, keys[i]) || err != api.OK {
					t.Errorf("15.4: side by side: %x, %d", p, err)
				}
			}
		})
	}
	all.Wait()
}

// 15.4: every call ends: terms as deep as there may be, that share their arguments or are their own, very long ones.
func TestItEnds(t *testing.T) {
	wantErr(t, makes(nil, out("o", nested(1<<16-2))), nil, api.ErrTask)
	x := lit("")
	for range 100 {
		x = call(api.TCat, x, x)
	}
	wantErr(t, makes(nil, out("o", x)), nil, api.ErrTask)
	own := []api.Term{lit("a"), {}}
	own[1] = call(api.TCat, own...)
	own[1].Args = own
	wantErr(t, makes(takes("x"), out("o", own[1])), nil, api.ErrTask)
	long := makes(takes("x"), out("o", lit(strings.Repeat("\x00", 1<<22))))
	wantPrint(t, long, []api.Key{{}}, printPlainly(long, []api.Key{{}}))
	wantErr(t, long, nil, api.ErrKeys)
	wantErr(t, api.Task{Name: strings.Repeat("n", 1<<22), Budget: 1, In: make([]string, 1<<16), Out: make([]api.Output, 1<<16)}, make([]api.Key, 1<<16), api.ErrTask)
}
