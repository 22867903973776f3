package parse

import (
	"fmt"
	"math/rand"
	"slices"
	"strings"
	"testing"
	"unsafe"

	"kiln/api"
)

func wantText(t *testing.T, want string, l ...api.Task) {
	t.Helper()
	if s, err := Text(l); err != api.OK || s != want {
		t.Fatalf("Text(%s) = %.300q, %d, want %.300q, OK", shown(l), s, err, want)
	}
}

func wantNoText(t *testing.T, l ...api.Task) {
	t.Helper()
	if s, err := Text(l); err != api.ErrTask || s != "" {
		t.Fatalf("Text(%s) = %.300q, %d, want nothing, ErrTask", shown(l), s, err)
	}
}

// wantBack: Text takes these tasks, and Manifest reads them from what it writes.
func wantBack(t *testing.T, l ...api.Task) string {
	t.Helper()
	s, err := Text(l)
	if err != api.OK {
		t.Fatalf("Text(%s) = %.300q, %d, want OK", shown(l), s, err)
	}
	wantTasks(t, s, l...)
	return s
}

// has: a task with an output that has this term.
func has(term api.Term) api.Task { return makes("a", out("o", term)) }

// 12.2: where blanks stand, and where lines end.
func TestWriting(t *testing.T) {
	wantText(t, "task a 1\nout o = \"\"\nend\n", has(text("")))
	wantText(t, "task a 1048576\nin p\nout o = in(p)\nend\n", api.Task{Name: "a", Budget: 1048576, In: []string{"p"}, Out: []api.Output{out("o", in("p"))}})
	wantText(t, "task task 10\nin in out end\nout out = var(end)\nout in/a = each(each,\"a b\",lines(in(9),0,2147483647))\nend\n",
		api.Task{Name: "task", Budget: 10, In: []string{"in", "out", "end"}, Out: []api.Output{out("out", variable("end")), out("in/a", each("each", text("a b"), part(0, 2147483647, in("9"))))}})
	wantText(t, "task b 1\nout o = \"\"\nend\ntask a 2\nin z a\nout z = \"\"\nout a = \"\"\nend\n", makes("b", out("o", text(""))), api.Task{Name: "a", Budget: 2, In: []string{"z", "a"}, Out: []api.Output{out("z", text("")), out("a", text(""))}})
	wantText(t, "task a 1\nout o = cat(\"\\n\\\"\\\\\\x00\\xff #(,)=\",\"\",upper(\"x\"))\nend\n", has(call(api.TCat, text("\n\"\\\x00\xff #(,)="), text(""), call(api.TUpper, text("x")))))
	if s, err := Text([]api.Task{}); s != "" || err != api.OK {
		t.Fatalf("Text of an empty list: %q, %d", s, err)
	}
	// Empty lists are none.
	task := api.Task{Name: "a", Budget: 1, In: []string{}, Out: []api.Output{out("o", api.Term{Kind: api.TText, Args: []api.Term{}})}}
	wantText(t, "task a 1\nout o = \"\"\nend\n", task)
}

// 12.2: every byte of a literal.
func TestWritingBytes(t *testing.T) {
	all := ""
	for c := range 256 {
		s := string([]byte{byte(c)})
		wantBack(t, has(text(s)))
		wantText(t, termTask(writeTerm(text(s+"a"))), has(text(s+"a")))
		all += s
	}
	wantBack(t, has(text(all)))
}

// 12.2: names.
func TestWritingNames(t *testing.T) {
	for _, s := range []string{"a", "0", "...", "task", "a-b_c.D9", strings.Repeat("n", 64)} {
		wantBack(t, makes(s, out("o", text(""))))
		wantBack(t, has(variable(s)))
		wantBack(t, has(each(s, text(""), text(""))))
	}
	for _, s := range []string{"", ".", "..", "/", "a/b", "a b", " a", "a\n", "a#", "\"a\"", "a,", "é", "a\x00", strings.Repeat("n", 65), strings.Repeat("n", 1<<20)} {
		wantNoText(t, makes(s, out("o", text(""))))
		wantNoText(t, has(variable(s)))
		wantNoText(t, has(each(s, text(""), text(""))))
	}
	wantNoText(t, makes("a", out("o", text(""))), makes("a", out("p", text(""))))
	wantNoText(t, makes("a", out("o", text(""))), makes("b", out("p", text(""))), makes("a", out("q", text(""))))
	wantBack(t, makes("a", out("o", text(""))), makes("A", out("p", text(""))), makes("o", out("q", text(""))))
}

// 12.2: paths.
func TestWritingPaths(t *testing.T) {
	task := func(p string) api.Task {
		return api.Task{Name: "a", Budget: 1, In: []string{"q", p}, Out: []api.Output{out("o", text(""))}}
	}
	for _, s := range []string{"a", "a/b", "0", "...", "task", "in", strings.Repeat("a/", 15) + "a", strings.Repeat(strings.Repeat("n", 63)+"/", 3) + strings.Repeat("m", 63)} {
		wantBack(t, task(s))
		wantBack(t, makes("a", out(s, text(""))))
		wantBack(t, has(in(s)))
	}
	for _, s := range []string{"", ".", "..", "/", "a/", "/a", "a//b", "a/..", "a b", "a\n", "a#", "é", strings.Repeat("n", 65), strings.Repeat("a/", 16) + "a", strings.Repeat(strings.Repeat("n", 63)+"/", 3) + strings.Repeat("m", 64), strings.Repeat("a/", 1<<20)} {
		wantNoText(t, task(s))
		wantNoText(t, makes("a", out(s, text(""))))
		wantNoText(t, has(in(s)))
	}
}

// 12.2: budgets, and the numbers of lines.
func TestWritingNumbers(t *testing.T) {
	for _, n := range []int{1, 2, 10, 1048575, 1048576} {
		wantBack(t, api.Task{Name: "a", Budget: n, Out: []api.Output{out("o", text(""))}})
	}
	for _, n := range []int{0, -1, 1048577, 1<<31 - 1, 1 << 32, 1<<32 + 1, 1<<63 - 1, -1 << 63} {
		wantNoText(t, api.Task{Name: "a", Budget: n, Out: []api.Output{out("o", text(""))}})
	}
	for _, n := range []int{0, 1, 9, 10, 1<<31 - 1} {
		wantBack(t, has(part(n, 3, text(""))))
		wantBack(t, has(part(3, n, text(""))))
	}
	for _, n := range []int{-1, 1 << 31, 1 << 32, 1<<63 - 1, -1 << 63} {
		wantNoText(t, has(part(n, 3, text(""))))
		wantNoText(t, has(part(3, n, text(""))))
	}
}

// 12.2: how many tasks, inputs and outputs there may be.
func TestWritingCounts(t *testing.T) {
	tasks := make([]api.Task, 257)
	for i := range tasks {
		tasks[i] = makes(fmt.Sprint("t", i), out(fmt.Sprint("o", i), text("")))
	}
	wantBack(t, tasks[:256]...)
	wantNoText(t, tasks...)
	wantNoText(t, make([]api.Task, 1000)...)
	paths := strings.Fields(numbered(" p%d", 65))
	for n := range 66 {
		task := has(text(""))
		task.In = paths[:n]
		if n <= 64 {
			wantBack(t, task)
		} else {
			wantNoText(t, task)
		}
	}
	for n := range 12 {
		task := makes("a")
		for _, p := range paths[:n] {
			task.Out = append(task.Out, out(p, text("")))
		}
		if 1 <= n && n <= 8 {
			wantBack(t, task)
		} else {
			wantNoText(t, task)
		}
		wantNoText(t, makes("b", out("x", text(""))), makes("a"), makes("c", out("y", text(""))))
	}
}

// 12.2: inputs and outputs that may not be both.
func TestWritingTwice(t *testing.T) {
	for _, l := range [][]string{{"p", "p"}, {"p", "q", "p"}, {"q", "p", "p"}, {"a/b", "c", "a/b"}} {
		task := has(text(""))
		task.In = l
		wantNoText(t, task)
	}
	both := api.Task{Name: "a", Budget: 1, In: []string{"p", "p/q", "o"}, Out: []api.Output{out("o", text("")), out("p", text(""))}}
	wantBack(t, both, api.Task{Name: "b", Budget: 1, In: []string{"o", "p"}, Out: []api.Output{out("r", text(""))}})
	l := []string{"a", "a/b", "a/b/c", "a/b.c", "a.b", "a.b/c", "a-b", "ab", "A", "b/a"}
	for _, p := range l {
		for _, q := range l {
			clash := strings.HasPrefix(p+"/", q+"/") || strings.HasPrefix(q+"/", p+"/")
			mine := []api.Task{makes("t", out(p, text("")), out("zz", text("")), out(q, text("")))}
			yours := []api.Task{makes("t", out(p, text(""))), makes("u", out("zz", text(""))), makes("v", out(q, text("")))}
			if clash {
				wantNoText(t, mine...)
				wantNoText(t, yours...)
				continue
			}
			wantBack(t, mine...)
			wantBack(t, yours...)
		}
	}
}

// 12.2: of each Kind, what it must have and what it may not have.
func TestWritingKinds(t *testing.T) {
	for kind := -2; kind < 20; kind++ {
		for args := range 5 {
			for _, s := range []string{"", "v", "v/w", "v w"} {
				for _, n := range []int{0, 1} {
					for _, m := range []int{0, 1} {
						term := api.Term{Kind: kind, Text: s, N: n, M: m}
						for range args {
							term.Args = append(term.Args, text("x"))
						}
						want, err := textPlainly([]api.Task{has(term)})
						if err != api.OK {
							wantNoText(t, has(term))
							wantNoText(t, has(call(api.TCat, text(""), term)))
							continue
						}
						wantText(t, want, has(term))
						wantBack(t, has(call(api.TCat, text(""), term)))
					}
				}
			}
		}
	}
	for _, kind := range []int{1 << 32, 1<<32 + 1, 1<<63 - 1, -1 << 63, 256 + api.TText} {
		wantNoText(t, has(api.Term{Kind: kind}))
	}
	// One that is wrong, wherever it stands.
	for _, term := range []api.Term{{}, {Kind: api.TIn}, call(api.TKey), {Kind: api.TText, M: 1}, {Kind: 16}} {
		wantNoText(t, has(call(api.TIf, text(""), text(""), term)))
		wantNoText(t, has(each("v", term, text(""))))
		wantNoText(t, has(part(0, 1, call(api.TKey, call(api.TCat, text(""), term, text(""))))))
		wantNoText(t, makes("a", out("o", text("")), out("p", term)))
		wantNoText(t, makes("a", out("o", text(""))), makes("b", out("p", term)), makes("c", out("q", text(""))))
	}
}

// deepTerm: a term as deep as that, with that inside.
func deepTerm(deep int, inside api.Term) api.Term {
	for i := range deep - 1 {
		switch i % 4 {
		case 0:
			inside = call(api.TKey, inside)
		case 1:
			inside = call(api.TCat, text(""), inside)
		case 2:
			inside = each("v", text(""), inside)
		default:
			inside = part(0, 1, inside)
		}
	}
	return inside
}

// 12.2: 64 terms nested in one another, and no more.
func TestWritingDeep(t *testing.T) {
	for _, inside := range []api.Term{text("x"), in("p"), variable("v")} {
		wantBack(t, has(deepTerm(64, inside)))
		for _, deep := range []int{65, 66, 1000, 60000} {
			wantNoText(t, has(deepTerm(deep, inside)))
			wantNoText(t, makes("a", out("o", text("")), out("p", deepTerm(deep, inside))))
		}
	}
	wide := call(api.TCat)
	for range 50 {
		wide.Args = append(wide.Args, deepTerm(63, text("")))
	}
	wantBack(t, has(wide))
	wide.Args = append(wide.Args, deepTerm(64, text("")))
	wantNoText(t, has(wide))
}

// 12.2, 12.3: a text may be longer than one that is read; lists that are unlike have unlike texts then too.
func TestWritingLong(t *testing.T) {
	long := strings.Repeat("x", 65536)
	wantText(t, termTask(`"`+long+`"`), has(text(long)))
	wantText(t, termTask(`"`+strings.Repeat(`\x00`, 1<<20)+`"`), has(text(strings.Repeat("\x00", 1<<20))))
	s, _ := Text([]api.Task{has(text(long))})
	wantWrong(t, s, api.ErrLong, 0)
	if other, err := Text([]api.Task{has(text(long[1:] + "y"))}); err != api.OK || other == s {
		t.Fatalf("two literals with one text: %d", err)
	}
	cat := call(api.TCat)
	for range 100000 {
		cat.Args = append(cat.Args, text("y"))
	}
	wantText(t, termTask("cat("+strings.Repeat(`"y",`, 99999)+`"y")`), has(cat))
	var tasks []api.Task
	for i := range 256 {
		task := makes(fmt.Sprint("t", i))
		for k := range 64 {
			task.In = append(task.In, fmt.Sprintf("%s/%d", strings.Repeat("n", 60), k))
		}
		for k := range 8 {
			task.Out = append(task.Out, out(fmt.Sprintf("%s/%d/%d", strings.Repeat("m", 60), k, i), in(task.In[k])))
		}
		tasks = append(tasks, task)
	}
	wantText(t, writePlainly(tasks), tasks...)
	wrong := copied(tasks)
	wrong[255].Out[7].Path = tasks[0].Out[0].Path + "/x"
	wantNoText(t, wrong...)
	wrong[255].Out[7].Path = strings.Repeat("m", 60)
	wantNoText(t, wrong...)
	// The longest text that is read.
	just := has(text(strings.Repeat("x", 65536-len(termTask(`""`)))))
	if s := wantBack(t, just); len(s) != 65536 {
		t.Fatalf("a text of %d bytes", len(s))
	}
	just.Out[0].Term.Text += "x"
	s, err := Text([]api.Task{just})
	if err != api.OK || len(s) != 65537 {
		t.Fatalf("a text of %d bytes, %d", len(s), err)
	}
	wantWrong(t, s, api.ErrLong, 0)
}

// 12.3: whatever Text takes is read back, whatever Manifest reads is taken, and written again it is the same text.
func TestBack(t *testing.T) {
	r := rand.New(rand.NewSource(123))
	for range 10000 {
		l := rightTasks(r)
		s := wantBack(t, l...)
		if want := writePlainly(l); s != want {
			t.Fatalf("Text(%s) = %q, want %q", shown(l), s, want)
		}
		read, _, _ := Manifest(s)
		wantText(t, s, read...)
	}
	w, _, _ := Manifest(lines(strings.Join(whole(), " ")))
	if len(w) != 2 {
		t.Fatalf("a manifest with all that there is: %s", shown(w))
	}
	wantBack(t, w...)
}

// turned: tasks with one thing changed by chance; a thing that no text says, or another one.
func turned(r *rand.Rand, l []api.Task) []api.Task {
	l = copied(l)
	if len(l) == 0 {
		return []api.Task{{}}
	}
	t := &l[r.Intn(len(l))]
	names := append([]string{"", ".", "a/b", "a b"}, someNames...)
	paths := append([]string{"", "..", "a//b", "a b"}, somePaths...)
	switch r.Intn(12) {
	case 0:
		t.Name = one(r, names)
	case 1:
		t.Budget = one(r, []int{-1, 0, 1, 2, 1 << 20, 1<<20 + 1})
	case 2:
		t.In = append(t.In, one(r, paths))
	case 3:
		t.In = t.In[:len(t.In)/2]
	case 4:
		t.Out = append(t.Out, api.Output{Path: one(r, paths), Term: chanceTerm(r, 2)})
	case 5:
		t.Out = t.Out[:len(t.Out)-1]
	case 6:
		l = append(l, *t)
	case 7:
		t.Out[r.Intn(len(t.Out))].Path = one(r, paths)
	default:
		term := &t.Out[r.Intn(len(t.Out))].Term
		for len(term.Args) > 0 && r.Intn(3) > 0 {
			term = &term.Args[r.Intn(len(term.Args))]
		}
		switch r.Intn(6) {
		case 0:
			term.Kind = r.Intn(18) - 1
		case 1:
			term.Text = one(r, paths)
		case 2:
			term.N = one(r, []int{-1, 0, 1, 1<<31 - 1, 1 << 31})
		case 3:
			term.M = one(r, []int{-1, 0, 1, 1<<31 - 1, 1 << 31})
		case 4:
			term.Args = append(term.Args, chanceTerm(r, 2))
		default:
			term.Args = term.Args[:len(term.Args)/2]
		}
	}
	return l
}

// 12.2, 12.3: tasks with one thing changed have another text, or none, as a plain reading of the chapter has it.
func TestTurned(t *testing.T) {
	r := rand.New(rand.NewSource(122))
	taken, refused := 0, 0
	for range 15000 {
		was := rightTasks(r)
		l := turned(r, was)
		want, err := textPlainly(l)
		if err != api.OK {
			wantNoText(t, l...)
			refused++
			continue
		}
		wantText(t, want, l...)
		taken++
		if before, _ := Text(was); (before == want) != same(was, l) {
			t.Fatalf("one text: %s and %s", shown(was), shown(l))
		}
	}
	if taken < 2000 || refused < 2000 {
		t.Fatalf("too few of a kind: %d are taken, %d are not", taken, refused)
	}
}

// 12.5: nothing is kept from call to call.
func TestNothingKept(t *testing.T) {
	l := []api.Task{has(text("x"))}
	for range 3 {
		wantTasks(t, termTask(`"x"`), l...)
		wantWrong(t, "task a 1\nout o", api.ErrWord, 2)
		wantText(t, termTask(`"x"`), l...)
		wantNoText(t, append(l, l...)...)
		wantTasks(t, "")
		wantText(t, "")
		wantWrong(t, "task a 1\nin p p", api.ErrIn, 2)
	}
}

// 12.5: side by side, calls don't touch one another.
func TestSideBySide(t *testing.T) {
	for i := range 8 {
		t.Run(fmt.Sprint(i), func(t *testing.T) {
			t.Parallel()
			r := rand.New(rand.NewSource(int64(i)))
			for range 500 {
				l := rightTasks(r)
				wantText(t, writePlainly(l), l...)
				wantTasks(t, writePlainly(l), l...)
				wantWrong(t, writePlainly(l)+"nope", api.ErrWord, 1+strings.Count(writePlainly(l), "\n"))
			}
		})
	}
}

// roomy: the same tasks, each list with some room behind in which something stands.
func roomy(tasks []api.Task) []api.Task {
	l := append(slices.Clone(tasks), api.Task{Name: "room"}, api.Task{Name: "room"})[:len(tasks)]
	for i := range l {
		l[i].In = append(slices.Clone(l[i].In), "room", "room")[:len(l[i].In)]
		outs := append(slices.Clone(l[i].Out), out("room", text("")), out("room", text("")))[:len(l[i].Out)]
		for k := range outs {
			outs[k].Term = roomyTerm(outs[k].Term)
		}
		l[i].Out = outs
	}
	return l
}

func roomyTerm(t api.Term) api.Term {
	l := append(slices.Clone(t.Args), text("room"), text("room"))[:len(t.Args)]
	for i := range l {
		l[i] = roomyTerm(l[i])
	}
	t.Args = l
	return t
}

// withRoom: tasks whose lists go on to the end of the room behind them.
func withRoom(tasks []api.Task) []api.Task {
	l := slices.Clone(tasks[:cap(tasks)])
	for i := range l {
		l[i].In = slices.Clone(l[i].In[:cap(l[i].In)])
		l[i].Out = slices.Clone(l[i].Out[:cap(l[i].Out)])
		for k := range l[i].Out {
			l[i].Out[k].Term = termWithRoom(l[i].Out[k].Term)
		}
	}
	return l
}

func termWithRoom(t api.Term) api.Term {
	t.Args = slices.Clone(t.Args[:cap(t.Args)])
	for i := range t.Args {
		t.Args[i] = termWithRoom(t.Args[i])
	}
	return t
}

// 12.5: what is handed in is not changed, nor the room behind it.
func TestHandedIn(t *testing.T) {
	r := rand.New(rand.NewSource(126))
	for range 3000 {
		tasks := rightTasks(r)
		if r.Intn(2) == 0 {
			tasks = turned(r, tasks)
		}
		l := roomy(tasks)
		was := withRoom(l)
		want, wrong := textPlainly(tasks)
		if s, err := Text(l); s != want || err != wrong {
			t.Fatalf("Text(%s) = %q, %d, want %q, %d", shown(l), s, err, want, wrong)
		}
		if !same(withRoom(l), was) {
			t.Fatalf("behind Text it is %s, ahead it was %s", shown(withRoom(l)), shown(was))
		}
	}
}

// spoilTerm: puts something into each list of a term, and into its room.
func spoilTerm(t *api.Term) {
	full := t.Args[:cap(t.Args)]
	for i := range t.Args {
		spoilTerm(&t.Args[i])
	}
	for i := range full {
		full[i] = text("spoilt")
	}
}

// 12.5: an answer's lists are new memory, and no two of them share any, spare room too.
func TestHandedOut(t *testing.T) {
	r := rand.New(rand.NewSource(127))
	for range 2000 {
		tasks := rightTasks(r)
		s := writePlainly(tasks)
		other, _, _ := Manifest(s)
		// Each list of the answer is spoilt in turn, to the end of its room: all others stay.
		for i, task := range tasks {
			l, _, _ := Manifest(s)
			spoilt := l[i].In[:cap(l[i].In)]
			for k := range spoilt {
				spoilt[k] = "spoilt"
			}
			l[i].In = task.In
			if !same(l, tasks) {
				t.Fatalf("with the inputs of task %d spoilt: %s", i, shown(l))
			}
			for k := range task.Out {
				spoilTerm(&l[i].Out[k].Term)
				l[i].Out[k].Term = task.Out[k].Term
				if !same(l, tasks) {
					t.Fatalf("with term %d of task %d spoilt: %s", k, i, shown(l))
				}
			}
			outs := l[i].Out[:cap(l[i].Out)]
			for k := range outs {
				outs[k] = out("spoilt", text("spoilt"))
			}
			l[i].Out = task.Out
			if !same(l, tasks) {
				t.Fatalf("with the outputs of task %d spoilt: %s", i, shown(l))
			}
			full := l[:cap(l)]
			for k := range full {
				full[k] = makes("spoilt")
			}
		}
		if !same(other, tasks) {
			t.Fatalf("the other answer is %s, want %s", shown(other), shown(tasks))
		}
		wantTasks(t, s, tasks...)
	}
}

// 12.5: the lists of arguments of one answer share nothing, one by one.
func TestArgsHandedOut(t *testing.T) {
	s := termTask(`cat(cat("a","b","c"),if("d",cat("e"),count("f","g")),each(v,"h",cat("i","j","k","l","m")))`)
	want, _, _ := Manifest(s)
	l, _, _ := Manifest(s)
	var walk func(t *api.Term)
	var lists []*[]api.Term
	walk = func(t *api.Term) {
		lists = append(lists, &t.Args)
		for i := range t.Args {
			walk(&t.Args[i])
		}
	}
	walk(&l[0].Out[0].Term)
	for _, at := range lists {
		for k := range lists {
			mine, yours := (*at)[:cap(*at)], (*lists[k])[:cap(*lists[k])]
			if at != lists[k] && len(mine) > 0 && len(yours) > 0 && &mine[len(mine)-1] == &yours[len(yours)-1] {
				t.Fatalf("two lists of one answer have the same room")
			}
		}
		_ = append(*at, text("spoilt")) // into the spare room, if there is any
	}
	if !same(l, want) {
		t.Fatalf("with the spare rooms spoilt: %s", shown(l))
	}
}

// lent: a text whose bytes can be changed behind a call, as no text of plain Go can.
func lent(s string) (string, []byte) {
	b := []byte(s)
	return unsafe.String(unsafe.SliceData(b), len(b)), b
}

// 12.5: an answer has no byte of what was handed in.
func TestBytesHandedOut(t *testing.T) {
	s := lines(strings.Join(whole(), " "))
	want, _, _ := Manifest(s)
	text1, b := lent(s)
	l, err, _ := Manifest(text1)
	clear(b)
	if err != api.OK || !same(l, want) {
		t.Fatalf("Manifest(%q), changed behind the call: %s, %d", s, shown(l), err)
	}
	name, b1 := lent("name")
	from, b2 := lent("from")
	to, b3 := lent("to")
	said, b4 := lent("said")
	got, err := Text([]api.Task{{Name: name, Budget: 1, In: []string{from}, Out: []api.Output{out(to, each(name, in(from), text(said)))}}})
	clear(b1)
	clear(b2)
	clear(b3)
	clear(b4)
	if err != api.OK || got != "task name 1\nin from\nout to = each(name,in(from),\"said\")\nend\n" {
		t.Fatalf("Text, what was handed in changed behind the call: %q, %d", got, err)
	}
}

// 12.5: also of terms that go round in a circle, or that stand in many places, the call ends.
func TestCircles(t *testing.T) {
	for _, n := range []int{1, 2, 3} {
		l := make([]api.Term, n)
		for i := range l {
			l[i] = call(api.TCat, l...) // the list itself, so that each term stands in each
		}
		wantNoText(t, has(l[0]))
	}
	l := []api.Term{text("x"), {Kind: api.TCat}}
	l[1].Args = l
	wantNoText(t, has(l[1]))
	// A list that stands in two places is written twice.
	shared := []api.Term{text("x")}
	wantText(t, termTask(`cat(key("x"),sort("x"))`), has(call(api.TCat, call(api.TKey, shared...), call(api.TSort, shared...))))
}
