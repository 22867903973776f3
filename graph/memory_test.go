package graph

import (
	"fmt"
	"math/rand"
	"reflect"
	"slices"
	"sync"
	"testing"
	"unsafe"

	"kiln/api"
)

// 13.7: a way may be as long as there are tasks, and all may hang on one: every call ends soon.
func TestLongWays(t *testing.T) {
	const n = 200000
	var chain, back []api.Task
	for i := range n {
		chain = append(chain, makes(fmt.Sprintf("n%06d", n-i), takes(output(i-1)), output(i)))
		back = append(back, makes(fmt.Sprintf("n%06d", i), takes(output(i+1)), output(i)))
	}
	if order, err, _ := Order(chain); err != api.OK || !slices.Equal(order, numbers(n)) {
		t.Errorf("13.7: a chain: %d", err)
	}
	order, err, _ := Order(back)
	slices.Reverse(order)
	if err != api.OK || !slices.Equal(order, numbers(n)) {
		t.Errorf("13.7: a chain from its end on: %d", err)
	}
	levels, err, _ := Levels(chain)
	if err != api.OK || len(levels) != n || !slices.Equal(slices.Concat(levels...), numbers(n)) {
		t.Errorf("13.7: the levels of a chain: %d", err)
	}
	chain[0].In = takes(output(n - 1))
	if order, err, name := Order(chain); order != nil || err != api.ErrCycle || name != "n000001" {
		t.Errorf("13.7: a long cycle: %d, %q", err, name)
	}
	chain[0].In = takes(output(1))
	if order, err, name := Order(chain); order != nil || err != api.ErrCycle || name != "n199999" {
		t.Errorf("13.7: a long way to a cycle: %d, %q", err, name)
	}
	back[n-1].In = takes(output(n - 1))
	if levels, err, name := Levels(back); levels != nil || err != api.ErrCycle || name != "n199999" {
		t.Errorf("13.7: a long way from a cycle: %d, %q", err, name)
	}
}

// 13.7: one path that very many make and take.
func TestManyByMany(t *testing.T) {
	const n = 60000
	var tasks []api.Task
	for range n {
		tasks = append(tasks, makes("a", takes("p")), makes("b", nil, "p", "q", "p"))
	}
	tasks = append(tasks, makes("c", slices.Repeat(takes("p", "q"), n)))
	var makers, takers []int
	for i := range n {
		makers, takers = append(makers, 2*i+1), append(takers, 2*i)
	}
	takers = append(takers, 2*n)
	if order, err, _ := Order(tasks); err != api.OK || !slices.Equal(order, slices.Concat(makers, takers)) {
		t.Errorf("13.7: %d places, %d", len(order), err)
	}
	if levels, err, _ := Levels(tasks); err != api.OK || !slices.EqualFunc(levels, [][]int{makers, takers}, slices.Equal) {
		t.Errorf("13.7: %d levels, %d", len(levels), err)
	}
	for _, i := range []int{0, 2 * n} {
		if needs := Needs(tasks, i); !slices.Equal(needs, makers) {
			t.Errorf("13.7: %d needs of %d", len(needs), i)
		}
	}
	tasks = append(tasks, makes("d", takes("p"), "p"))
	if order, err, name := Order(tasks); order != nil || err != api.ErrCycle || name != "d" {
		t.Errorf("13.7: %d, %q", err, name)
	}
	tasks[0].Out = []api.Output{{Path: "p"}}
	if levels, err, name := Levels(tasks); levels != nil || err != api.ErrCycle || name != "a" {
		t.Errorf("13.7: %d, %q", err, name)
	}
}

// 13.7: nothing is kept: a call answers as if it were the first, whatever was asked ahead of it.
func TestNothingKept(t *testing.T) {
	r := rand.New(rand.NewSource(17))
	for range 300 {
		tasks, other := chanceWeb(r, 1+r.Intn(12), r.Intn(2)), chanceWeb(r, 1+r.Intn(12), r.Intn(2))
		wantAsRead(t, tasks)
		wantAsRead(t, other)
		wantAsRead(t, tasks)
	}
}

// 13.7: calls side by side answer as one behind the other.
func TestSideBySide(t *testing.T) {
	r := rand.New(rand.NewSource(18))
	shared := chanceWeb(r, 30, 0)
	turning := chanceWeb(r, 30, 30)
	var all sync.WaitGroup
	for range 8 {
		all.Add(1)
		go func() {
			defer all.Done()
			for range 20 {
				wantAsRead(t, shared)
				wantAsRead(t, turning)
			}
		}()
	}
	all.Wait()
}

// withRoom: the same tasks, with something in the spare room of each list.
func withRoom(tasks []api.Task) []api.Task {
	l := make([]api.Task, 0, len(tasks)+2)
	for _, x := range tasks {
		x.In = append(slices.Clone(x.In), "spare", "room")[:len(x.In)]
		x.Out = append(slices.Clone(x.Out), api.Output{Path: "spare"}, api.Output{Path: "room"})[:len(x.Out)]
		l = append(l, x)
	}
	return append(l, makes("spare", takes("room")), makes("room", takes("x"), "spare"))[:len(tasks)]
}

// opened: all that lies in the lists and behind them, in new memory.
func opened(tasks []api.Task) []api.Task {
	l := slices.Clone(tasks[:cap(tasks)])
	for i := range l {
		l[i].In = slices.Clone(l[i].In[:cap(l[i].In)])
		l[i].Out = slices.Clone(l[i].Out[:cap(l[i].Out)])
	}
	return l
}

// 13.7: what is handed in is not changed, nor the room behind it; and that room is not looked at.
func TestHandedIn(t *testing.T) {
	r := rand.New(rand.NewSource(19))
	for range 500 {
		tasks := chanceTasks(r, r.Intn(8), 1+r.Intn(16), 3, 3)
		roomy := withRoom(tasks)
		before := opened(roomy)
		wantAsRead(t, roomy)
		if !reflect.DeepEqual(opened(roomy), before) {
			t.Errorf("13.7: %s was changed", shown(tasks))
		}
	}
}

// spoil writes over a list and the room behind it.
func spoil(l []int) {
	for i := range l[:cap(l)] {
		l[:cap(l)][i] = -7
	}
}

// 13.7: answers are new memory, spare room too: what is done to one is seen in no other, and no two levels share any.
func TestHandedOut(t *testing.T) {
	r := rand.New(rand.NewSource(20))
	for range 500 {
		tasks := chanceWeb(r, 1+r.Intn(30), 0)
		order, _, _ := Order(tasks)
		levels, _, _ := Levels(tasks)
		needs := Needs(tasks, len(tasks)-1)
		wantOrd, wantLev, wantNee := slices.Clone(order), slices.Clone(levels), slices.Clone(needs)
		for i := range wantLev {
			wantLev[i] = slices.Clone(levels[i])
		}
		for i, level := range levels {
			spoil(level)
			for j := i + 1; j < len(levels); j++ {
				if !slices.Equal(levels[j], wantLev[j]) {
					t.Fatalf("13.7: the levels %d and %d share memory", i, j)
				}
			}
		}
		clear(levels[:cap(levels)])
		if !slices.Equal(order, wantOrd) || !slices.Equal(needs, wantNee) {
			t.Fatalf("13.7: answers share memory")
		}
		spoil(order)
		spoil(needs)
		wantOrder(t, tasks, wantOrd...)
		wantLevels(t, tasks, wantLev...)
		wantNeeds(t, tasks, len(tasks)-1, wantNee...)
	}
}

// 13.7: no level's spare room is another one's, nor holds what is not its own.
func TestRoomOfLevels(t *testing.T) {
	var tasks []api.Task
	for i := range 40 {
		for k := range 1 + i%5 {
			tasks = append(tasks, makes(fmt.Sprint("n", k), takes(output(i-1)), output(i)))
		}
	}
	levels, _, _ := Levels(tasks)
	want := make([][]int, len(levels))
	for i := range levels {
		want[i] = slices.Clone(levels[i])
	}
	for i := range levels {
		levels[i] = append(levels[i], -1, -2, -3)
	}
	for i := range levels {
		if !slices.Equal(levels[i], append(want[i], -1, -2, -3)) {
			t.Errorf("13.7: the level %d is %v", i, levels[i])
		}
	}
}

// 13.7: the name is told in bytes of its own.
func TestNameHandedOut(t *testing.T) {
	for _, tell := range []func([]api.Task) string{
		func(l []api.Task) string { _, _, name := Order(l); return name },
		func(l []api.Task) string { _, _, name := Levels(l); return name },
	} {
		b := []byte("turning")
		lent := unsafe.String(&b[0], len(b))
		name := tell([]api.Task{makes("z", takes("q"), "q"), makes(lent, takes("p"), "p")})
		copy(b, "written")
		if name != "turning" {
			t.Errorf("13.7: the name is %q", name)
		}
	}
}
