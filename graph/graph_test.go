package graph

import (
	"fmt"
	"math"
	"math/rand"
	"slices"
	"strings"
	"testing"

	"kiln/api"
)

func makes(name string, ins []string, outs ...string) api.Task {
	t := api.Task{Name: name, In: ins}
	for _, p := range outs {
		t.Out = append(t.Out, api.Output{Path: p})
	}
	return t
}

func takes(ins ...string) []string { return ins }

// output: a path for a number.
func output(i int) string { return fmt.Sprint("out/", i) }

// shown: tasks as the tests tell them.
func shown(tasks []api.Task) string {
	var l []string
	for i, t := range tasks {
		s := fmt.Sprintf("%d %q in %q out", i, t.Name, t.In)
		for _, o := range t.Out {
			s += fmt.Sprintf(" %q", o.Path)
		}
		l = append(l, s)
	}
	return strings.Join(l, "; ")
}

func wantNeeds(t *testing.T, tasks []api.Task, i int, want ...int) {
	t.Helper()
	if got := Needs(tasks, i); !slices.Equal(got, want) {
		t.Errorf("13.1: Needs(%s, %d) = %v, want %v", shown(tasks), i, got, want)
	}
}

func wantOrder(t *testing.T, tasks []api.Task, want ...int) {
	t.Helper()
	if got, err, name := Order(tasks); !slices.Equal(got, want) || err != api.OK || name != "" {
		t.Errorf("13.2: Order(%s) = %v, %d, %q, want %v", shown(tasks), got, err, name, want)
	}
}

func wantLevels(t *testing.T, tasks []api.Task, want ...[]int) {
	t.Helper()
	if got, err, name := Levels(tasks); !slices.EqualFunc(got, want, slices.Equal) || err != api.OK || name != "" {
		t.Errorf("13.3: Levels(%s) = %v, %d, %q, want %v", shown(tasks), got, err, name, want)
	}
}

func wantCycle(t *testing.T, tasks []api.Task, want string) {
	t.Helper()
	if got, err, name := Order(tasks); len(got) != 0 || err != api.ErrCycle || name != want {
		t.Errorf("13.2: Order(%s) = %v, %d, %q, want ErrCycle, %q", shown(tasks), got, err, name, want)
	}
	if got, err, name := Levels(tasks); len(got) != 0 || err != api.ErrCycle || name != want {
		t.Errorf("13.3: Levels(%s) = %v, %d, %q, want ErrCycle, %q", shown(tasks), got, err, name, want)
	}
}

// wantAsRead: every call answers as the plain reading of the chapter does. It tells the error of Order.
func wantAsRead(t *testing.T, tasks []api.Task) api.Errno {
	t.Helper()
	for i := -1; i <= len(tasks); i++ {
		wantNeeds(t, tasks, i, needsPlainly(tasks, i)...)
	}
	order, err, name := orderPlainly(tasks)
	if err != api.OK {
		wantCycle(t, tasks, name)
		return err
	}
	wantOrder(t, tasks, order...)
	levels, _, _ := levelsPlainly(tasks)
	wantLevels(t, tasks, levels...)
	return err
}

// example: the tasks of the chapter's examples.
func example() []api.Task {
	return []api.Task{makes("b", nil, "x"), makes("a", takes("x"), "y"), makes("c", takes("y", "x", "src")), makes("a2", nil)}
}

// The chapter's examples.
func TestExamples(t *testing.T) {
	wantNeeds(t, example(), 2, 0, 1)
	wantNeeds(t, example(), 0)
	wantNeeds(t, example(), 4)
	wantOrder(t, example(), 3, 0, 1, 2)
	wantLevels(t, example(), []int{3, 0}, []int{1}, []int{2})
	wantCycle(t, []api.Task{makes("t", takes("p"), "p")}, "t")
	wantOrder(t, nil)
	wantOrder(t, []api.Task{})
	wantLevels(t, nil)
	wantLevels(t, []api.Task{})
}

// 13.1: none of what is no place.
func TestNoPlace(t *testing.T) {
	for _, i := range []int{math.MinInt, -2, -1, 4, 5, math.MaxInt} {
		wantNeeds(t, example(), i)
		wantNeeds(t, nil, i)
	}
	wantNeeds(t, nil, 0)
	self := []api.Task{makes("t", takes("p"), "p")}
	for _, i := range []int{-1, 1} {
		wantNeeds(t, self, i)
	}
}

// 13.1: rising, each once, however often a path stands among inputs or outputs, and whatever order they have.
func TestNeedsRise(t *testing.T) {
	tasks := []api.Task{
		makes("d", nil, "w", "x"),
		makes("c", nil, "y", "y"),
		makes("b", takes("z", "y", "z", "x", "w", "y"), "z"),
		makes("a", nil, "x", "z"),
	}
	wantNeeds(t, tasks, 2, 0, 1, 2, 3)
	for i := range tasks {
		if i != 2 {
			wantNeeds(t, tasks, i)
		}
	}
	var many []api.Task
	for i := range 300 {
		many = append(many, makes("n", nil, output(i%7)))
	}
	many = append(many, makes("m", takes(output(5), output(3), "src", output(5))))
	wantNeeds(t, many, 300, needsPlainly(many, 300)...)
}

// 13.1: where several have one output, whoever has it as an input needs them all, itself too.
func TestManyMakers(t *testing.T) {
	tasks := []api.Task{makes("a", takes("o"), "p"), makes("b", nil, "o"), makes("c", takes("p")), makes("d", nil, "o")}
	wantNeeds(t, tasks, 0, 1, 3)
	wantOrder(t, tasks, 1, 3, 0, 2)
	wantLevels(t, tasks, []int{1, 3}, []int{0}, []int{2})
	tasks[3].In = takes("o")
	wantNeeds(t, tasks, 3, 1, 3)
	wantCycle(t, tasks, "d")
	tasks[1].In = takes("p")
	wantCycle(t, tasks, "a")
}

// 13.1: paths are looked at byte by byte: no other one, none that begins it or lies under it, none written otherwise.
func TestPathsAreBytes(t *testing.T) {
	for _, p := range chancePaths {
		for _, q := range chancePaths {
			tasks := []api.Task{makes("a", takes(p)), makes("b", nil, q)}
			if p == q {
				wantNeeds(t, tasks, 0, 1)
				wantOrder(t, tasks, 1, 0)
				wantLevels(t, tasks, []int{1}, []int{0})
			} else {
				wantNeeds(t, tasks, 0)
				wantOrder(t, tasks, 0, 1)
				wantLevels(t, tasks, []int{0, 1})
			}
		}
	}
	long := strings.Repeat("p/", 5000)
	wantNeeds(t, []api.Task{makes("a", takes(long+"x")), makes("b", nil, long+"y"), makes("c", nil, long+"x")}, 0, 2)
}

// 13.2, 13.3: the lesser name is ahead, byte by byte; of one name the lesser place.
func TestAhead(t *testing.T) {
	rising := []string{"", "\x00", "\x00\x00", "\x01", "-", ".", "0", "10", "2", "A", "Z", "Za", "_", "a", "a\x00", "a ", "a.", "a0", "aa", "ab", "b", "z", "\x7f", "\x80", "é", "\xfe", "\xff", "\xff\xff"}
	for i, a := range rising {
		for j, b := range rising {
			want := []int{0, 1}
			if j < i {
				want = []int{1, 0}
			}
			wantOrder(t, []api.Task{makes(a, nil), makes(b, nil)}, want...)
			wantLevels(t, []api.Task{makes(a, nil), makes(b, nil)}, want)
			if b < a {
				wantCycle(t, []api.Task{makes(a, takes("p"), "p"), makes(b, takes("q"), "q")}, b)
			} else {
				wantCycle(t, []api.Task{makes(a, takes("p"), "p"), makes(b, takes("q"), "q")}, a)
			}
		}
	}
	var all []api.Task
	for i := range rising {
		all = append(all, makes(rising[len(rising)-1-i], nil))
	}
	back := numbers(len(rising))
	slices.Reverse(back)
	wantOrder(t, all, back...)
	wantLevels(t, all, back)
	var same []api.Task
	for range 50 {
		same = append(same, makes("n", nil, "o"))
	}
	wantOrder(t, same, numbers(50)...)
	wantLevels(t, same, numbers(50))
}

// 13.2: who becomes ready comes at once, if it is ahead of those that have been for long; 13.3: in a level of its own all the same.
func TestReadyLate(t *testing.T) {
	tasks := []api.Task{makes("m", nil, "m"), makes("z", nil), makes("a", takes("m"), "a"), makes("n", nil), makes("b", takes("a")), makes("l", nil)}
	wantOrder(t, tasks, 5, 0, 2, 4, 3, 1)
	wantLevels(t, tasks, []int{5, 0, 3, 1}, []int{2}, []int{4})
}

// 13.3: a task stands behind the last level of those that it needs, not behind the first.
func TestLevelsAreWhole(t *testing.T) {
	tasks := []api.Task{
		makes("a", takes("1", "3"), "4"),
		makes("b", nil, "1"),
		makes("c", takes("1"), "2"),
		makes("d", takes("2", "1"), "3"),
		makes("e", takes("src"), "5"),
		makes("f", takes("5", "1"), "6"),
	}
	wantOrder(t, tasks, 1, 2, 3, 0, 4, 5)
	wantLevels(t, tasks, []int{1, 4}, []int{2, 5}, []int{3}, []int{0})
}

// 13.2: who leads to a cycle, or is led to from one, or lies between two, does not lie on one.
func TestAboutCycles(t *testing.T) {
	two := []api.Task{makes("z", takes("1"), "2"), makes("y", takes("2"), "1")}
	wantCycle(t, two, "y")
	wantCycle(t, append(two, makes("a", takes("1"), "a")), "y")
	wantCycle(t, append(two, makes("a", takes("1"), "a"), makes("b", takes("a"))), "y")
	led := []api.Task{makes("z", takes("1", "0"), "2"), makes("y", takes("2"), "1"), makes("a", nil, "0")}
	wantCycle(t, led, "y")
	between := []api.Task{
		makes("y", takes("1"), "1"),
		makes("c", takes("1"), "2"),
		makes("d", takes("2"), "3"),
		makes("x", takes("3", "4"), "5"),
		makes("z", takes("5"), "4"),
		makes("a", takes("4"), "6"),
		makes("b", nil, "7"),
	}
	wantCycle(t, between, "x")
	between[6].In = takes("8")
	wantCycle(t, append(between, makes("w", takes("7"), "8")), "b")
}

// 13.2: a cycle of any length, with the name that is ahead at any of its places; also by a path with further makers and takers.
func TestCycleLengths(t *testing.T) {
	for n := 1; n <= 20; n++ {
		for first := range n {
			var tasks []api.Task
			for i := range n {
				tasks = append(tasks, makes(fmt.Sprintf("n%02d", (i-first+n)%n), takes(output((i+1)%n)), output(i)))
			}
			wantCycle(t, tasks, "n00")
			tasks = append(tasks, makes("a", takes(output(n-1)), "o"), makes("b", nil, output(0)), makes("c", takes("o"), "o2"))
			wantCycle(t, tasks, "n00")
			tasks[(first+n/2)%n].In = append(tasks[(first+n/2)%n].In, "o2")
			wantCycle(t, tasks, "a")
			cut := slices.Clone(tasks[:n])
			cut[first].In = nil
			if _, err, _ := Order(cut); err != api.OK {
				t.Errorf("13.2: %s: %d", shown(cut), err)
			}
			wantAsRead(t, cut)
		}
	}
}

// 13.2: the empty name is one as any other.
func TestEmptyName(t *testing.T) {
	wantCycle(t, []api.Task{makes("a", takes("p"), "p"), makes("", takes("q"), "q")}, "")
	wantOrder(t, []api.Task{makes("a", nil), makes("", nil)}, 1, 0)
}

// byEdges: tasks of which the i-th needs the j-th just if the bit i*n+j is there.
func byEdges(names []string, edges int) []api.Task {
	var tasks []api.Task
	for i, name := range names {
		t := makes(name, nil, output(i))
		for j := range names {
			if edges>>(i*len(names)+j)&1 == 1 {
				t.In = append(t.In, output(j))
			}
		}
		tasks = append(tasks, t)
	}
	return tasks
}

// 13.1 to 13.3: every way in which up to three tasks can need one another, with names in every order and some alike; and in which four can.
func TestAllSmall(t *testing.T) {
	for _, names := range []string{"", "a", "ab", "ba", "aa", "abc", "acb", "bac", "bca", "cab", "cba", "aab", "aba", "baa", "abb", "bab", "bba", "aaa"} {
		for edges := range 1 << (len(names) * len(names)) {
			wantAsRead(t, byEdges(strings.Split(names, ""), edges))
		}
	}
	for edges := range 1 << 16 {
		wantAsRead(t, byEdges([]string{"c", "a", "d", "b"}, edges))
	}
}

// 13.1 to 13.3: every way in which three tasks can have two paths as inputs and outputs.
func TestAllShared(t *testing.T) {
	paths := []string{"x", "y"}
	for bits := range 1 << 12 {
		tasks := []api.Task{{Name: "b"}, {Name: "c"}, {Name: "a"}}
		for i := range tasks {
			for k, p := range paths {
				if bits>>(i*4+k)&1 == 1 {
					tasks[i].In = append(tasks[i].In, p)
				}
				if bits>>(i*4+2+k)&1 == 1 {
					tasks[i].Out = append(tasks[i].Out, api.Output{Path: p})
				}
			}
		}
		wantAsRead(t, tasks)
	}
}

// 13.1 to 13.3: chance lists against the plain reading, with few paths that many share, and with many that few do.
func TestByChance(t *testing.T) {
	r := rand.New(rand.NewSource(13))
	counts := map[api.Errno]int{}
	for range 30000 {
		counts[wantAsRead(t, chanceTasks(r, r.Intn(9), 1+r.Intn(20), r.Intn(4), r.Intn(4)))]++
	}
	for range 4000 {
		counts[wantAsRead(t, chanceWeb(r, 1+r.Intn(16), r.Intn(3)))]++
	}
	for _, err := range []api.Errno{api.OK, api.ErrCycle} {
		if counts[err] < 5000 {
			t.Errorf("%d chance lists with error %d", counts[err], err)
		}
	}
}

// 13.4: of all rows of all places, each behind all that it needs, Order is the least; it is a fault just if there is none.
func TestLeast(t *testing.T) {
	r := rand.New(rand.NewSource(14))
	found := 0
	for range 2500 {
		tasks := chanceWeb(r, 1+r.Intn(6), r.Intn(2))
		if r.Intn(2) == 0 {
			tasks = chanceTasks(r, r.Intn(6), 12, 3, 3)
		}
		order, err, _ := Order(tasks)
		if least := leastRow(tasks); !slices.Equal(order, least) || (err == api.OK) != (least != nil || len(tasks) == 0) {
			t.Errorf("13.4: Order(%s) = %v, %d, the least is %v", shown(tasks), order, err, least)
		}
		if err == api.OK && len(tasks) > 2 {
			found++
		}
	}
	if found < 500 {
		t.Errorf("%d orders were held against all rows", found)
	}
}

// 13.5: whoever stands in a level needs someone of the level ahead, and none of its own or of one behind; all levels are each place once.
func TestLevelsHang(t *testing.T) {
	r := rand.New(rand.NewSource(15))
	deepest := 0
	for range 3000 {
		tasks := chanceWeb(r, 1+r.Intn(40), 0)
		levels, err, _ := Levels(tasks)
		if err != api.OK {
			t.Fatalf("13.5: Levels(%s): %d", shown(tasks), err)
		}
		deepest = max(deepest, len(levels))
		all := slices.Sorted(slices.Values(slices.Concat(levels...)))
		if !slices.Equal(all, numbers(len(tasks))) {
			t.Errorf("13.5: Levels(%s) = %v", shown(tasks), levels)
		}
		for k, level := range levels {
			for _, i := range level {
				needs := Needs(tasks, i)
				near := k == 0 || slices.ContainsFunc(levels[k-1], func(j int) bool { return slices.Contains(needs, j) })
				held := slices.ContainsFunc(slices.Concat(levels[k:]...), func(j int) bool { return slices.Contains(needs, j) })
				if len(level) == 0 || !near || held {
					t.Errorf("13.5: Levels(%s) = %v", shown(tasks), levels)
				}
			}
		}
	}
	if deepest < 6 {
		t.Errorf("at most %d levels", deepest)
	}
}

// namesOf places.
func namesOf(tasks []api.Task, l []int) []string {
	var names []string
	for _, i := range l {
		names = append(names, tasks[i].Name)
	}
	return names
}

// 13.6: tasks whose names are all unlike are told in one order of names, however the list, their inputs and their outputs are ordered, and whatever else they have.
func TestAnotherOrder(t *testing.T) {
	r := rand.New(rand.NewSource(16))
	counts := map[api.Errno]int{}
	for range 1500 {
		tasks := chanceWeb(r, 1+r.Intn(12), r.Intn(3))
		for i, k := range r.Perm(len(tasks)) {
			tasks[i].Name = fmt.Sprint("n", k)
		}
		order, err, name := Order(tasks)
		levels, _, _ := Levels(tasks)
		counts[err]++
		for range 4 {
			other := turned(r, tasks)
			order2, err2, name2 := Order(other)
			levels2, err3, name3 := Levels(other)
			same := slices.Equal(namesOf(tasks, order), namesOf(other, order2)) &&
				slices.EqualFunc(levels, levels2, func(a, b []int) bool { return slices.Equal(namesOf(tasks, a), namesOf(other, b)) })
			if !same || err != err2 || err != err3 || name != name2 || name != name3 {
				t.Errorf("13.6: %s and %s: %v, %d, %q and %v, %d, %q; %v and %v", shown(tasks), shown(other), order, err, name, order2, err2, name2, levels, levels2)
			}
		}
	}
	if counts[api.OK] < 300 || counts[api.ErrCycle] < 300 {
		t.Errorf("%v lists", counts)
	}
}

// turned: the same tasks in another order, with what does not count made otherwise.
func turned(r *rand.Rand, tasks []api.Task) []api.Task {
	var l []api.Task
	for _, i := range r.Perm(len(tasks)) {
		x := tasks[i]
		x.Budget = r.Int()
		x.In, x.Out = slices.Clone(x.In), slices.Clone(x.Out)
		if len(x.In) > 0 {
			x.In = append(x.In, one(r, x.In), "src")
		}
		r.Shuffle(len(x.In), func(i, j int) { x.In[i], x.In[j] = x.In[j], x.In[i] })
		if len(x.Out) > 0 {
			x.Out = append(x.Out, one(r, x.Out))
		}
		for k := range x.Out {
			x.Out[k].Term = api.Term{Kind: api.TIn, Text: output(r.Intn(len(tasks)))}
		}
		l = append(l, x)
	}
	return l
}
