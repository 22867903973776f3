package parse

import (
	"fmt"
	"math/rand"
	"slices"
	"strings"
	"testing"

	"kiln/api"
	"kiln/token"
)

// lines: as the chapter's examples part them.
func lines(s string) string { return strings.ReplaceAll(s, ";", "\n") }

// shown: what a message can show of tasks.
func shown(l []api.Task) string {
	s := fmt.Sprintf("%d tasks: %#v", len(l), l[:min(len(l), 4)])
	return s[:min(len(s), 1500)]
}

func wantTasks(t *testing.T, text string, want ...api.Task) {
	t.Helper()
	l, err, line := Manifest(text)
	if err != api.OK || line != 0 || !same(l, want) {
		t.Fatalf("Manifest(%.300q) = %s, %d, %d, want %s, OK, 0", text, shown(l), err, line, shown(want))
	}
}

func wantWrong(t *testing.T, text string, want api.Errno, wantLine int) {
	t.Helper()
	l, err, line := Manifest(text)
	if err != want || line != wantLine || len(l) != 0 {
		t.Fatalf("Manifest(%.300q) = %s, %d, %d, want none, %d, %d", text, shown(l), err, line, want, wantLine)
	}
}

// wantAsRead: Manifest tells of a text what a plain reading of the chapter does; it is told which error that is.
func wantAsRead(t *testing.T, text string) api.Errno {
	t.Helper()
	l, err, line := readPlainly(text)
	if err == api.OK {
		wantTasks(t, text, l...)
	} else {
		wantWrong(t, text, err, line)
	}
	return err
}

// Terms, tasks: as they are written in tests.
func text(s string) api.Term                   { return api.Term{Kind: api.TText, Text: s} }
func in(p string) api.Term                     { return api.Term{Kind: api.TIn, Text: p} }
func variable(n string) api.Term               { return api.Term{Kind: api.TVar, Text: n} }
func call(kind int, args ...api.Term) api.Term { return api.Term{Kind: kind, Args: args} }
func part(n, m int, of api.Term) api.Term {
	return api.Term{Kind: api.TLines, N: n, M: m, Args: []api.Term{of}}
}
func each(n string, args ...api.Term) api.Term { return api.Term{Kind: api.TEach, Text: n, Args: args} }
func out(p string, t api.Term) api.Output      { return api.Output{Path: p, Term: t} }
func makes(name string, outs ...api.Output) api.Task {
	return api.Task{Name: name, Budget: 1, Out: outs}
}

// termTask: a manifest of a task whose output has the term that is written so, on line 2.
func termTask(term string) string { return "task a 1\nout o = " + term + "\nend\n" }

// numbered: texts with a number behind.
func numbered(format string, n int) string {
	var b strings.Builder
	for i := range n {
		fmt.Fprintf(&b, format, i)
	}
	return b.String()
}

// The chapter's examples.
func TestExamples(t *testing.T) {
	wantTasks(t, "")
	wantTasks(t, "# a")
	one := api.Task{Name: "a", Budget: 9, In: []string{"x", "y/z"}, Out: []api.Output{out("o", call(api.TCat, in("x"), text("-"), in("y/z")))}}
	wantTasks(t, lines(`task a 9; in x y/z; out o = cat(in(x),"-",in(y/z)); end`), one)
	wantText(t, "task a 9\nin x y/z\nout o = cat(in(x),\"-\",in(y/z))\nend\n", one)
	for _, s := range []string{"task", "task a 0", "task a 09", "task a/b 1"} {
		wantWrong(t, s, api.ErrWord, 1)
	}
	for _, e := range []struct {
		text string
		err  api.Errno
		line int
	}{
		{`task a 1; end`, api.ErrNone, 2},
		{`task a 1; out o = "x";;`, api.ErrNone, 2},
		{`task a 1; in; out o = ""; end`, api.ErrWord, 2},
		{`task a 1; in p p`, api.ErrIn, 2},
		{`task a 1; out o = "";out o/p = ""`, api.ErrOut, 3},
		{`task a 1; out o = ""; end; task a 1`, api.ErrTwice, 4},
		{`task a 1; out o = nope("")`, api.ErrWord, 2},
		{`task a 1; out o = cat()`, api.ErrWord, 2},
		{`task a 1; out o = "x`, api.ErrOpen, 2},
		{`end end; "x`, api.ErrOpen, 2},
	} {
		wantWrong(t, lines(e.text), e.err, e.line)
	}
	wantText(t, "")
	wantNoText(t, makes("a"))
}

// 12.1: each Kind of term, and what it has.
func TestTerms(t *testing.T) {
	x, y, z := text("x"), text("y"), text("z")
	for s, want := range map[string]api.Term{
		`""`: text(""), `"x"`: x, `"\"\\\n\x00\xff"`: text("\"\\\n\x00\xff"), `"in(x)"`: text("in(x)"),
		`in(p)`: in("p"), `in(a/b.c)`: in("a/b.c"), `in(in)`: in("in"), `in(17)`: in("17"),
		`var(v)`: variable("v"), `var(var)`: variable("var"), `var(0)`: variable("0"),
		`cat("x")`: call(api.TCat, x), `cat("x","y")`: call(api.TCat, x, y), `cat("x","y","z","x")`: call(api.TCat, x, y, z, x),
		`upper("x")`: call(api.TUpper, x), `lower("x")`: call(api.TLower, x), `sort("x")`: call(api.TSort, x),
		`uniq("x")`: call(api.TUniq, x), `key("x")`: call(api.TKey, x), `fail("x")`: call(api.TFail, x),
		`lines("x",0,1)`: part(0, 1, x), `lines("x",7,3)`: part(7, 3, x), `lines("x",0,0)`: part(0, 0, x), `lines("x",2147483647,2147483646)`: part(2147483647, 2147483646, x),
		`replace("x","y","z")`: call(api.TReplace, x, y, z), `if("x","y","z")`: call(api.TIf, x, y, z),
		`count("x","y")`: call(api.TCount, x, y), `each(v,"x","y")`: each("v", x, y), `each(each,"x","y")`: each("each", x, y),
		`cat(key(in(p)),each(l,sort("x"),if(var(l),lines("y",1,2),"z")),"x")`: call(api.TCat, call(api.TKey, in("p")), each("l", call(api.TSort, x), call(api.TIf, variable("l"), part(1, 2, y), z)), x),
	} {
		wantTasks(t, termTask(s), makes("a", out("o", want)))
		wantText(t, termTask(s), makes("a", out("o", want)))
	}
}

// 12.1: no Kind is written with fewer or more parts than it has, nor with others, nor without its signs.
func TestNoTerms(t *testing.T) {
	var wrong []string
	parts := map[string]int{"cat": -1, "upper": 1, "lower": 1, "sort": 1, "uniq": 1, "key": 1, "fail": 1, "replace": 3, "if": 3, "count": 2}
	for word, right := range parts {
		for n := range 6 {
			s := word + "(" + strings.TrimSuffix(strings.Repeat(`"x",`, n), ",") + ")"
			if n == right || right < 0 && n > 0 {
				if l, err, _ := Manifest(termTask(s)); err != api.OK || len(l[0].Out[0].Term.Args) != n {
					t.Fatalf("%s: %s, %d", s, shown(l), err)
				}
				continue
			}
			wrong = append(wrong, s)
		}
		wrong = append(wrong, word, word+"(", word+`("x"`, word+`("x",`, word+`("x",)`, word+`(,"x")`, word+`"x"`, word+`(x)`, word+`("x""x")`, word+`("x"))`, word+`("x") "y"`, word+`=("x")`, strings.ToUpper(word)+`("x")`)
	}
	wrong = append(wrong, `in()`, `in(p,q)`, `in(p q)`, `in("p")`, `in(in(p))`, `in(a//b)`, `in(.)`, `in(/)`, `in`, `in p`,
		`var()`, `var(v,w)`, `var("v")`, `var(a/b)`, `var(..)`, `var(var(v))`, `var`,
		`lines("x")`, `lines("x",1)`, `lines("x",1,2,3)`, `lines(1,2,"x")`, `lines("x",1,"2")`, `lines("x","1",2)`, `lines("x",01,2)`, `lines("x",1,00)`, `lines("x",-1,2)`, `lines("x",1,-0)`, `lines("x",a,2)`, `lines("x",1,2147483648)`, `lines("x",2147483648,1)`, `lines("x",1,18446744073709551616)`, `lines("x",1,1.0)`, `lines("x",1 2)`, `lines("x",,2)`, `lines("x",1e3,2)`, `lines("x",0x1,2)`, `lines("x",1_0,2)`,
		`each("x","y")`, `each(v)`, `each(v,"x")`, `each(v,"x","y","z")`, `each("v","x","y")`, `each(a/b,"x","y")`, `each(.,"x","y")`, `each("x",v,"y")`, `each()`,
		``, `x`, `(`, `()`, `("x")`, `=`, `= "x"`, `,`, `"x","y"`, `"x" "y"`, `"x")`, `17`, `"x"=`, `text("x")`, `task`, `out`, `end`, `cats("x")`, `ca("x")`)
	for _, s := range wrong {
		wantWrong(t, termTask(s), api.ErrWord, 2)
		wantAsRead(t, termTask(`cat("a",`+s+`,"b")`)) // what is too much alone may be right as two parts of a cat
	}
}

// 12.1: what is a NAME, and what is none.
func TestNames(t *testing.T) {
	for _, s := range []string{"a", "Z", "0", "017", "-", "_", "...", ".a", "a.", "task", "in", "out", "end", "cat", "a-b_c.D9", strings.Repeat("n", 64)} {
		want := makes(s, out("o", each(s, variable(s), text(""))))
		wantTasks(t, "task "+s+" 1\nout o = each("+s+",var("+s+"),\"\")\nend", want)
	}
	for _, s := range []string{".", "..", "/", "a/b", "a/", "/a", strings.Repeat("n", 65), `"a"`, "=", "(", ")", ",", "", "# a"} {
		wantWrong(t, "\ntask "+s+" 1\nout o = \"\"\nend", api.ErrWord, 2)
		wantWrong(t, termTask("var("+s+")"), api.ErrWord, 2)
		wantWrong(t, termTask("each("+s+`,"","")`), api.ErrWord, 2)
	}
}

// 12.1: what is a PATH, and what is none.
func TestPaths(t *testing.T) {
	for _, s := range []string{"a", "a/b", "0", "0/1", "...", "a/.../b", "task", "in", "out", "end", strings.Repeat("a/", 15) + "a", strings.Repeat("n", 64) + "/b", strings.Repeat(strings.Repeat("n", 63)+"/", 3) + strings.Repeat("m", 63)} {
		want := api.Task{Name: "a", Budget: 1, In: []string{s}, Out: []api.Output{out(s, in(s))}}
		wantTasks(t, "task a 1\nin "+s+"\nout "+s+" = in("+s+")\nend", want)
	}
	for _, s := range []string{".", "..", "/", "a/", "/a", "a//b", "a/..", "./a", strings.Repeat("n", 65), "a/" + strings.Repeat("n", 65), strings.Repeat("a/", 16) + "a", `"a"`, "=", "(", ")", ","} {
		wantWrong(t, "task a 1\nin "+s+"\nout o = \"\"\nend", api.ErrWord, 2)
		wantWrong(t, "task a 1\nin p "+s+" q\nout o = \"\"\nend", api.ErrWord, 2)
		wantWrong(t, "task a 1\n\nout "+s+" = \"\"\nend", api.ErrWord, 3)
		wantWrong(t, termTask("in("+s+")"), api.ErrWord, 2)
	}
	wantWrong(t, "task a 1\nin "+strings.Repeat(strings.Repeat("n", 63)+"/", 4)+"\nout o = \"\"\nend", api.ErrLong, 2)
}

// 12.1: N is a number from 1 to 1048576.
func TestBudgets(t *testing.T) {
	for s, n := range map[string]int{"1": 1, "9": 9, "10": 10, "1048575": 1048575, "1048576": 1048576} {
		wantTasks(t, "task a "+s+"\nout o = \"\"\nend", api.Task{Name: "a", Budget: n, Out: []api.Output{out("o", text(""))}})
	}
	for _, s := range []string{"0", "00", "01", "09", "-1", "-0", "1048577", "2147483647", "4294967297", "9223372036854775807", "9223372036854775808", "18446744073709551617", strings.Repeat("9", 255), strings.Repeat("0", 254) + "1", "a", "1a", "1.", "1.0", ".1", "1_0", "0x1", "1e1", "1/1", `"1"`, "=", "", "1 1", "1 a", "1 =", `1 ""`} {
		wantWrong(t, "task a "+s+"\nout o = \"\"\nend", api.ErrWord, 1)
	}
}

// 12.1: which line may stand behind which.
func TestLineOrder(t *testing.T) {
	task, ins, outs, end := "task a 1\n", "in p\n", "out o = \"\"\n", "end\n"
	one, two := makes("a", out("o", text(""))), makes("a", out("o", text("")))
	two.In = []string{"p"}
	wantTasks(t, task+outs+end, one)
	wantTasks(t, task+ins+outs+end, two)
	wantTasks(t, task+outs+"out q = \"\"\n"+end, makes("a", out("o", text("")), out("q", text(""))))
	wantTasks(t, task+ins+outs+end+"task b 1\nout q = \"\"\nend", two, makes("b", out("q", text(""))))
	for _, w := range []struct {
		text string
		err  api.Errno
		line int
	}{
		{ins, api.ErrWord, 1}, {outs, api.ErrWord, 1}, {end, api.ErrWord, 1}, {"tasks a 1", api.ErrWord, 1}, {"\"task\" a 1", api.ErrWord, 1}, {"= a", api.ErrWord, 1},
		{task, api.ErrNone, 1}, {task + task, api.ErrWord, 2}, {task + end, api.ErrNone, 2}, {task + "nope", api.ErrWord, 2}, {task + "\"end\"", api.ErrWord, 2},
		{task + ins, api.ErrNone, 2}, {task + ins + ins, api.ErrWord, 3}, {task + ins + task, api.ErrWord, 3}, {task + ins + end, api.ErrNone, 3}, {task + ins + "in", api.ErrWord, 3},
		{task + outs, api.ErrNone, 2}, {task + outs + ins, api.ErrWord, 3}, {task + outs + task, api.ErrWord, 3}, {task + ins + outs + ins, api.ErrWord, 4},
		{task + outs + end + ins, api.ErrWord, 4}, {task + outs + end + outs, api.ErrWord, 4}, {task + outs + end + end, api.ErrWord, 4},
		{task + "in\n" + outs, api.ErrWord, 2}, {task + "in p,q\n", api.ErrWord, 2}, {task + "in p = q\n", api.ErrWord, 2},
		{task + "out o\n", api.ErrWord, 2}, {task + "out\n", api.ErrWord, 2}, {task + "out o p = \"\"\n", api.ErrWord, 2}, {task + "out o \"\"\n", api.ErrWord, 2}, {task + "out = \"\"\n", api.ErrWord, 2}, {task + "out o = \"\" end\n", api.ErrWord, 2},
		{task + outs + "end end\n", api.ErrWord, 3}, {task + "end end\n", api.ErrNone, 2}, {task + outs + "end task b 1\n", api.ErrWord, 3}, {"task a 1 " + outs, api.ErrWord, 1},
	} {
		wantWrong(t, w.text, w.err, w.line)
	}
}

// 12.1: a line's end that may not stand there is told on its own line, also where the term would go on below.
func TestLineEnds(t *testing.T) {
	whole := []string{"task", "a", "1", "\n", "in", "p", "\n", "out", "o", "=", "each", "(", "v", ",", "lines", "(", "in", "(", "p", ")", ",", "0", ",", "9", ")", ",", "cat", "(", "var", "(", "v", ")", ",", `"x"`, ")", ")", "\n", "end", "\n"}
	wantAsRead(t, strings.Join(whole, " "))
	for i := range whole {
		got := wantAsRead(t, strings.Join(slices.Insert(slices.Clone(whole), i, "\n"), " "))
		ends := i == 0 || whole[i-1] == "\n" || whole[i] == "\n"
		if ends != (got == api.OK) || !ends && got != api.ErrWord {
			t.Fatalf("with a further line's end ahead of token %d: %d", i, got)
		}
	}
	wantWrong(t, "task a 1\nout o = cat(\"x\",\n\"y\")\nend", api.ErrWord, 2)
	wantWrong(t, "task a 1\n\n\nout o =\n\"y\"\nend", api.ErrWord, 4)
	wantWrong(t, "task a # 1\n", api.ErrWord, 1)
}

// 12.1: when all is read and a task has no end line, the last line that says something is told.
func TestNoEnd(t *testing.T) {
	for _, behind := range []string{"", "\n", "\n\n\n", "\n  \n", "\n# end\n", " # end", "\n\n# a\n# b"} {
		wantWrong(t, "task a 1"+behind, api.ErrNone, 1)
		wantWrong(t, "\n\n# a\n\ntask a 1"+behind, api.ErrNone, 5)
		wantWrong(t, "task a 1\n\nin p"+behind, api.ErrNone, 3)
		wantWrong(t, "task a 1\n\nin p\n\n\nout o = \"\""+behind, api.ErrNone, 6)
		wantWrong(t, "task a 1\nout o = \"\"\nend\n\ntask b 1"+behind, api.ErrNone, 5)
		wantTasks(t, "task a 1\nout o = \"\"\nend"+behind, makes("a", out("o", text(""))))
	}
}

// 12.1: 256 tasks, and no more.
func TestTaskCount(t *testing.T) {
	var want []api.Task
	for i := range 256 {
		want = append(want, makes(fmt.Sprint("t", i), out(fmt.Sprint("o", i), text(""))))
	}
	all := ""
	for i := range 256 {
		all += fmt.Sprintf("task t%d 1\nout o%d = \"\"\nend\n", i, i)
	}
	wantTasks(t, all, want...)
	wantWrong(t, all+"task", api.ErrCount, 769)
	wantWrong(t, all+"\ntask t0 1", api.ErrCount, 770)
	wantWrong(t, all+"task new 1\nout new = \"\"\nend", api.ErrCount, 769)
	wantWrong(t, all+"task . 0 )", api.ErrCount, 769)
	wantWrong(t, all+"tasks", api.ErrWord, 769)
	wantWrong(t, all+"\"task\"", api.ErrWord, 769)
	wantWrong(t, all+"end", api.ErrWord, 769)
}

// 12.1: 64 inputs, and no more.
func TestInputCount(t *testing.T) {
	head, rest := "task a 1\nin"+numbered(" p%d", 64), "\nout o = \"\"\nend"
	l, err, _ := Manifest(head + rest)
	if err != api.OK || len(l) != 1 || len(l[0].In) != 64 || l[0].In[63] != "p63" {
		t.Fatalf("64 inputs: %s, %d", shown(l), err)
	}
	wantWrong(t, head+" p64"+rest, api.ErrCount, 2)
	wantWrong(t, head+" p0"+rest, api.ErrCount, 2) // one that is there already, and too many
	wantWrong(t, head+" a//b"+rest, api.ErrWord, 2)
	wantWrong(t, head+" \"p\""+rest, api.ErrWord, 2)
	wantWrong(t, head+" p64 ="+rest, api.ErrCount, 2)
	wantWrong(t, head+" ="+rest, api.ErrWord, 2)
}

// 12.1: 8 outputs of a task, and no more.
func TestOutputCount(t *testing.T) {
	eight := "task a 1\n" + numbered("out o%d = \"\"\n", 8)
	l, err, _ := Manifest(eight + "end")
	if err != api.OK || len(l) != 1 || len(l[0].Out) != 8 || l[0].Out[7].Path != "o7" {
		t.Fatalf("8 outputs: %s, %d", shown(l), err)
	}
	for _, s := range []string{"out", "out p = \"\"", "out o0 = \"\"", "out . =", "out )"} {
		wantWrong(t, eight+s, api.ErrCount, 10)
		wantWrong(t, eight+"\n"+s+"\nend", api.ErrCount, 11)
	}
	wantWrong(t, eight+"outs", api.ErrWord, 10)
	wantWrong(t, eight+"in", api.ErrWord, 10)
	wantWrong(t, eight, api.ErrNone, 9)
	if _, err, _ := Manifest(eight + "end\ntask b 1\n" + numbered("out q%d = \"\"\n", 8) + "end"); err != api.OK {
		t.Fatalf("8 outputs each: %d", err)
	}
}

// 12.1: no two tasks of one name.
func TestTwice(t *testing.T) {
	three := "task a 1\nout o = \"\"\nend\ntask b 1\nout p = \"\"\nend\ntask A 1\nout q = \"\"\nend\n"
	wantTasks(t, three, makes("a", out("o", text(""))), makes("b", out("p", text(""))), makes("A", out("q", text(""))))
	for _, s := range []string{"a", "b", "A"} {
		wantWrong(t, three+"task "+s+" 1\nout r = \"\"\nend", api.ErrTwice, 10)
		wantWrong(t, three+"task "+s+" 0", api.ErrTwice, 10)
		wantWrong(t, three+"task "+s, api.ErrTwice, 10)
	}
	wantWrong(t, three+"task aa 0", api.ErrWord, 10)
	// A task and an input or output may be called the same.
	wantTasks(t, "task o 1\nin o\nout o = \"\"\nend", api.Task{Name: "o", Budget: 1, In: []string{"o"}, Out: []api.Output{out("o", text(""))}})
}

// 12.1: no input of a task twice; of two tasks, or one under the other, it may be.
func TestInputTwice(t *testing.T) {
	rest := "\nout o = \"\"\nend\n"
	for _, s := range []string{"p p", "p q p", "p q q", "a/b a/b", "p p )", "p p .", "in in"} {
		wantWrong(t, "task a 1\nin "+s+rest, api.ErrIn, 2)
	}
	wantWrong(t, "task a 1\nin p ) p"+rest, api.ErrWord, 2)
	wantTasks(t, "task a 1\nin p p/q p.q P"+rest+"task b 1\nin P p\nout b = \"\"\nend",
		api.Task{Name: "a", Budget: 1, In: []string{"p", "p/q", "p.q", "P"}, Out: []api.Output{out("o", text(""))}},
		api.Task{Name: "b", Budget: 1, In: []string{"P", "p"}, Out: []api.Output{out("b", text(""))}})
}

// 12.1: no output twice, or under another one, of this task or of one ahead.
func TestOutputTwice(t *testing.T) {
	clash := func(a, b string) bool {
		return strings.HasPrefix(a+"/", b+"/") || strings.HasPrefix(b+"/", a+"/")
	}
	l := []string{"a", "a/b", "a/b/c", "a/b.c", "a/b/c/d", "a.b", "a.b/c", "a-b", "a0", "ab", "aB/c", "A", "b", "b/a"}
	for _, a := range l {
		for _, b := range l {
			mine := fmt.Sprintf("task t 1\nout %s = \"\"\nout zz = \"\"\nout %s = \"\"\nend", a, b)
			yours := fmt.Sprintf("task t 1\nout %s = \"\"\nend\ntask u 1\nout %s = \"\"\nend", a, b)
			if clash(a, b) {
				wantWrong(t, mine, api.ErrOut, 4)
				wantWrong(t, yours, api.ErrOut, 5)
				continue
			}
			wantTasks(t, mine, makes("t", out(a, text("")), out("zz", text("")), out(b, text(""))))
			wantTasks(t, yours, makes("t", out(a, text(""))), makes("u", out(b, text(""))))
		}
	}
	wantWrong(t, "task t 1\nout o = \"\"\nout o", api.ErrOut, 3)
	wantWrong(t, "task t 1\nout o = \"\"\nout o/p )", api.ErrOut, 3)
	wantWrong(t, "task t 1\nout o = \"\"\nout o/ = \"\"", api.ErrWord, 3)
	// An output may be an input too, and lie under one.
	wantTasks(t, "task t 1\nin o p\nout o = \"\"\nout p/q = \"\"\nend", api.Task{Name: "t", Budget: 1, In: []string{"o", "p"}, Out: []api.Output{out("o", text("")), out("p/q", text(""))}})
}

// 12.1: outputs of many tasks, by chance, each held against all ahead of it.
func TestOutputsByChance(t *testing.T) {
	r := rand.New(rand.NewSource(121))
	counts := make(map[api.Errno]int)
	for range 3000 {
		letters, b := []string{"a", "b", "c", "ab", "a.b", "a-", "0", "z", "Z", "_"}, strings.Builder{}
		for i := range 1 + r.Intn(12) {
			fmt.Fprintf(&b, "task t%d 1\n", i)
			for range 1 + r.Intn(3) {
				names := make([]string, 1+r.Intn(4))
				for k := range names {
					names[k] = one(r, letters)
				}
				fmt.Fprintf(&b, "out %s = \"\"\n", strings.Join(names, "/"))
			}
			b.WriteString("end\n")
		}
		counts[wantAsRead(t, b.String())]++
	}
	if counts[api.OK] < 300 || counts[api.ErrOut] < 300 {
		t.Fatalf("too few of a kind: %v", counts)
	}
}

// nested: a term as deep as that, by a way of nesting, and with that inside.
func nested(ahead, behind string, deep int, inside string) string {
	return strings.Repeat(ahead, deep-1) + inside + strings.Repeat(behind, deep-1)
}

// 12.1: 64 terms nested in one another, and no more.
func TestDeep(t *testing.T) {
	ways := [][2]string{{"key(", ")"}, {"cat(", ")"}, {`cat("",`, ")"}, {"cat(", `,"")`}, {"lines(", ",0,0)"}, {"if(", `,"","")`}, {`if("",`, `,"")`}, {`if("","",`, ")"}, {"count(", `,"")`}, {`count("",`, ")"}, {"each(v,", `,"")`}, {`each(v,"",`, ")"}, {`replace("","",`, ")"}}
	insides := []string{`""`, "in(p)", "var(v)"}
	for _, w := range ways {
		for _, inside := range insides {
			s := termTask(nested(w[0], w[1], 64, inside))
			if l, err, _ := Manifest(s); err != api.OK || len(l) != 1 {
				t.Fatalf("64 deep by %s: %d", w[0], err)
			}
			wantAsRead(t, s)
			wantWrong(t, termTask(nested(w[0], w[1], 65, inside)), api.ErrDeep, 2)
			wantWrong(t, termTask(nested(w[0], w[1], 66, inside)), api.ErrDeep, 2)
			wantWrong(t, termTask(nested(w[0], w[1], 2000, inside)), api.ErrDeep, 2)
		}
		if strings.Contains(w[0], `"`) { // its own literal is too deep first
			continue
		}
		// What begins no term is told as that, however deep; what would be wrong behind the first word is not come to.
		for _, inside := range []string{"x", ")", "", "=", ",", "17", "("} {
			wantWrong(t, termTask(nested(w[0], w[1], 65, inside)), api.ErrWord, 2)
		}
		for _, inside := range []string{"in", "in(/)", "cat()", `"" ""`, "key =", "fail(x)"} {
			wantWrong(t, termTask(nested(w[0], w[1], 65, inside)), api.ErrDeep, 2)
			wantAsRead(t, termTask(nested(w[0], w[1], 64, inside)))
		}
	}
	// How deep a term is hangs on those that it stands in alone, not on those ahead of it.
	wide := "cat(" + strings.TrimSuffix(strings.Repeat(nested("key(", ")", 63, `""`)+",", 100), ",") + ")"
	if l, err, _ := Manifest(termTask(wide)); err != api.OK || len(l[0].Out[0].Term.Args) != 100 {
		t.Fatalf("many that are 64 deep: %d", err)
	}
	wantWrong(t, termTask(strings.TrimSuffix(wide, ")")+","+nested("key(", ")", 64, `""`)+")"), api.ErrDeep, 2)
	two := "task a 1\nout o = " + nested("key(", ")", 64, `""`) + "\nout p = " + nested("key(", ")", 64, `""`) + "\nend"
	if _, err, _ := Manifest(two); err != api.OK {
		t.Fatalf("two outputs that are 64 deep: %d", err)
	}
}

// 12.1: what token.Tokens refuses is told ahead of all else, with its line.
func TestTokensHandedOn(t *testing.T) {
	for _, ahead := range []string{"", "end\n", "task a 0\n", "task a 1\nin p p\n", "task a 1\nout o = \"\"\nend\n"} {
		n := strings.Count(ahead, "\n") + 1
		wantWrong(t, ahead+"+", api.ErrByte, n)
		wantWrong(t, ahead+"\t", api.ErrByte, n)
		wantWrong(t, ahead+"\"\x80\"", api.ErrByte, n)
		wantWrong(t, ahead+`"x`, api.ErrOpen, n)
		wantWrong(t, ahead+`"\q"`, api.ErrEscape, n)
		wantWrong(t, ahead+"\n"+strings.Repeat("w", 256), api.ErrLong, n+1)
		wantWrong(t, ahead+strings.Repeat("\n", 65537-len(ahead)), api.ErrLong, 0)
		wantWrong(t, ahead+strings.Repeat("+", 65537), api.ErrLong, 0)
	}
}

// 12.1: a text as long as one may be.
func TestLongest(t *testing.T) {
	s := "task a 1\nout o = \"\"\nend\n"
	want := makes("a", out("o", text("")))
	for _, fill := range []string{" ", "\n", "#"} {
		wantTasks(t, s+strings.Repeat(fill, 65536-len(s)), want)
		wantTasks(t, strings.Repeat("\n", 65536-len(s))+s, want)
		wantWrong(t, s+strings.Repeat(fill, 65537-len(s)), api.ErrLong, 0)
	}
	wantWrong(t, strings.Repeat("\n", 65536-len(s))+strings.Replace(s, "end", "ene", 1), api.ErrWord, 65536-len(s)+3)
	long := strings.Repeat("x", 65536-len(s))
	wantTasks(t, "task a 1\nout o = \""+long+"\"\nend\n", makes("a", out("o", text(long))))
	wide := strings.Repeat(`"",`, 20000)
	if l, err, _ := Manifest(termTask("cat(" + wide + `"")`)); err != api.OK || len(l[0].Out[0].Term.Args) != 20001 {
		t.Fatalf("a cat of 20001: %d", err)
	}
}

// whole: the tokens of a manifest that has every thing of the language, as they are written.
func whole() []string {
	text := "task a 9 ; in p q/r ; out o = cat ( in ( p ) , \"x\" , upper ( lower ( var ( v ) ) ) ) ; out q = lines ( sort ( uniq ( \"y\" ) ) , 0 , 7 ) ; end ; ; " +
		"task b 1 ; out s/t = replace ( key ( \"a\" ) , fail ( \"\" ) , count ( \"b\" , \"c\" ) ) ; out s/u = if ( \"\" , each ( v , in ( o ) , var ( v ) ) , \"d\" ) ; end ;"
	return strings.Fields(text)
}

// 12.1: each token of a manifest left out, or another one in its place or ahead of it, or all behind it cut off.
func TestEveryToken(t *testing.T) {
	w := whole()
	write := func(l []string) string { return lines(strings.Join(l, " ")) }
	if err := wantAsRead(t, write(w)); err != api.OK {
		t.Fatalf("the manifest itself: %d", err)
	}
	others := []string{"task", "in", "out", "end", "cat", "key", "each", "lines", "var", "a", "b", "o", "o/p", "s", "s/t", "p", "q/r", ".", "a//b", "0", "1", "01", "1048577", "2147483648", `""`, `"in"`, "=", "(", ")", ",", ";"}
	counts := make(map[api.Errno]int)
	for i := range w {
		counts[wantAsRead(t, write(slices.Delete(slices.Clone(w), i, i+1)))]++
		counts[wantAsRead(t, write(w[:i]))]++
		counts[wantAsRead(t, write(w[i:]))]++
		for _, o := range others {
			l := slices.Clone(w)
			l[i] = o
			counts[wantAsRead(t, write(l))]++
			counts[wantAsRead(t, write(slices.Insert(slices.Clone(w), i, o)))]++
		}
	}
	for _, err := range []api.Errno{api.OK, api.ErrWord, api.ErrTwice, api.ErrIn, api.ErrOut, api.ErrNone} {
		if counts[err] < 3 {
			t.Fatalf("too few of a kind: %v", counts)
		}
	}
}

// 12.1: all short rows of few tokens, behind each of some beginnings.
func TestShortRows(t *testing.T) {
	for _, c := range []struct{ ahead, tokens string }{
		{"", `task a 1 in out = "" end ;`},
		{"task a 1\n", `in out p = "" end ; task`},
		{"task a 1\nout o = ", `cat in key ( ) , "" p`},
		{"task a 1\nout o = lines(", `"" ( ) , 0 1 ; in`},
		{"task a 1\nout o = each(v,", `"" ( ) , v ; end`},
		{"task a 1\nin p\nout o = \"\"\n", `out p o = "" end task a 1 ;`},
	} {
		rows := []string{""}
		for range 5 {
			var next []string
			for _, s := range rows {
				for _, w := range strings.Fields(c.tokens) {
					next = append(next, s+w+" ")
				}
			}
			for _, s := range next {
				wantAsRead(t, c.ahead+lines(s))
			}
			rows = next
		}
	}
}

// spelt: a literal's bytes written in another way.
func spelt(r *rand.Rand, s string) string {
	b := strings.Builder{}
	for _, c := range []byte(s) {
		if r.Intn(2) == 0 {
			fmt.Fprintf(&b, `\x%02x`, c)
			continue
		}
		q := token.Quote(string([]byte{c}))
		b.WriteString(q[1 : len(q)-1])
	}
	return `"` + b.String() + `"`
}

// otherwise: a text of the same tokens, with blanks, remarks, blank lines and literals by chance.
func otherwise(r *rand.Rand, l []api.Token) string {
	var b strings.Builder
	blanks := func(least int) { b.WriteString(strings.Repeat(" ", least+max(0, r.Intn(5)-2))) }
	remark := func() {
		if r.Intn(3) == 0 {
			b.WriteString("#" + strings.ReplaceAll(chanceBytes(r), "\n", "\""))
		}
	}
	for i, t := range l {
		for i > 0 && l[i-1].Kind == api.KEnd && r.Intn(4) == 0 {
			blanks(0)
			remark()
			b.WriteString("\n")
		}
		both := i > 0 && t.Kind == api.KWord && l[i-1].Kind == api.KWord
		blanks(map[bool]int{true: 1}[both])
		switch t.Kind {
		case api.KWord:
			b.WriteString(t.Text)
		case api.KLiteral:
			b.WriteString(spelt(r, t.Text))
		case api.KEnd:
			remark()
			b.WriteString("\n")
		default:
			b.WriteByte(" \"\"=(),"[t.Kind])
		}
	}
	s := b.String()
	if r.Intn(2) == 0 {
		s = strings.TrimSuffix(s, "\n")
	}
	return s
}

// 12.4: remarks, blanks, blank lines and another writing of literals change no task.
func TestWrittenOtherwise(t *testing.T) {
	want := makes("a", out("o", call(api.TCat, in("x"), text("a\n"))))
	for _, s := range []string{
		"task a 1\nout o = cat(in(x),\"a\\n\")\nend\n", "task a 1\nout o=cat(in(x),\"a\\n\")\nend", "\n\n  task   a   1   # b\n\n#\n   out o = cat ( in ( x ) , \"\\x61\\x0a\" ) #)\n \n end # end\n# c",
		"#task b 1\ntask a 1#\nout o=cat(in(x)   ,\"\\x61\\n\")#\nend#",
	} {
		wantTasks(t, s, want)
	}
	r := rand.New(rand.NewSource(124))
	for range 5000 {
		tasks := rightTasks(r)
		l, _, _, _ := token.Tokens(writePlainly(tasks))
		for range 3 {
			wantTasks(t, otherwise(r, l), tasks...)
		}
	}
}

// 12.1: texts that are right, or nearly so, against a plain reading.
func TestTextsByChance(t *testing.T) {
	r := rand.New(rand.NewSource(12))
	counts := make(map[api.Errno]int)
	words := []string{"task", "in", "out", "end", "cat", "key", "a", "b", "0", "7", "a/b", "."}
	for range 40000 {
		l, _, _, _ := token.Tokens(writePlainly(chanceTasks(r)))
		for k := r.Intn(4) - 1; k > 0 && len(l) > 0; k-- {
			i, j := r.Intn(len(l)), r.Intn(len(l))
			switch r.Intn(5) {
			case 0:
				l = slices.Delete(l, i, i+1)
			case 1:
				l = slices.Insert(l, i, l[j])
			case 2:
				l[i], l[j] = l[j], l[i]
			case 3:
				l[i] = api.Token{Kind: 1 + r.Intn(7), Text: one(r, words)}
			default:
				l = l[:i]
			}
		}
		counts[wantAsRead(t, otherwise(r, l))]++
	}
	for _, err := range []api.Errno{api.OK, api.ErrWord, api.ErrTwice, api.ErrIn, api.ErrOut, api.ErrNone} {
		if counts[err] < 500 {
			t.Fatalf("too few of a kind: %v", counts)
		}
	}
}

// 12.5: every call ends, and none panics, whatever bytes it is given.
func TestAnyBytes(t *testing.T) {
	r := rand.New(rand.NewSource(125))
	for range 20000 {
		b := make([]byte, r.Intn(100))
		r.Read(b)
		wantAsRead(t, string(b))
		s := []byte(writePlainly(chanceTasks(r)))
		for range min(len(s), 1+r.Intn(2)) {
			s[r.Intn(len(s))] = one(r, []byte("task inout\n\n=(),\"\\#01x./+"))
		}
		wantAsRead(t, string(s))
	}
	for _, s := range []string{"(", "in(", "cat(", "task a 1\n", "\"", "\n", ")", "end\n", "task ", "cat(\"\","} {
		wantAsRead(t, strings.Repeat(s, 65536/len(s)))
		wantAsRead(t, "task a 1\nout o = "+strings.Repeat(s, 60000/len(s)))
		wantAsRead(t, strings.Repeat(s, 100000))
	}
}
