package engine

import (
	"bytes"
	"math"
	"slices"
	"strings"
	"testing"

	"kiln/api"
	"kiln/chain"
	"kiln/node"
	"kiln/sha"
)

// 21.3: what Begin refuses, in this order; a build that has not ended is not touched by that.
func TestBeginRefused(t *testing.T) {
	g := newGround(t, 40, 8)
	bad := []api.File{file("a", ""), file("b", ""), file("a/c", "")}
	if place, err := g.Begin("", bad); place != 2 || err != api.ErrSource {
		t.Errorf("21.3: %d, %d", place, err)
	}
	for i, src := range [][]api.File{
		{file("", "")},
		{file("a", ""), file("../a", "")},
		{file("a", ""), file("b", ""), file("c", strings.Repeat("x", api.MaxFile+1))},
	} {
		if place, err := g.Begin("", src); place != i || err != api.ErrSource {
			t.Errorf("21.3: %d, %d, want %d", place, err, i)
		}
	}
	if _, err := g.Step(1); err != api.ErrOver {
		t.Errorf("21.4: behind a refused Begin: %d", err)
	}
	g.begin(text("t", "o", "x"))
	g.step(3)
	if place, err := g.Begin("", bad); place != 0 || err != api.ErrBusy {
		t.Errorf("21.3: %d, %d", place, err)
	}
	if p := g.step(math.MaxInt); p != done(6, 1) {
		t.Errorf("21.4: %+v", p)
	}
	g.begin("task") // a manifest is looked at in Step
	g.want(g.step(1), api.Progress{Ended: true, Fault: api.Fault{Err: api.ErrWord, Line: 1}})
	g.begin("")
	g.want(g.step(99), done(5, 2)) // the empty tree's node and memo lie there no more
}

// 21.4: no build, or one that has ended; a number below 1, which changes nothing.
func TestStepRefused(t *testing.T) {
	g := newGround(t, 40, 8)
	for _, n := range far {
		if p, err := g.Step(n); p != (api.Progress{}) || err != api.ErrOver {
			t.Errorf("21.4: Step(%d) without a build: %+v, %d", n, p, err)
		}
	}
	g.begin(text("t", "o", "x"))
	for range 9 {
		for _, n := range []int{math.MinInt, -1, 0} {
			if p, err := g.Step(n); p != (api.Progress{}) || err != api.ErrSteps {
				t.Errorf("21.4: Step(%d): %+v, %d", n, p, err)
			}
		}
		g.step(1)
	}
	if p, err := g.Step(0); p != (api.Progress{}) || err != api.ErrOver {
		t.Errorf("21.4: behind the end: %+v, %d", p, err)
	}
	g.begin("task")
	g.step(1)
	if p, err := g.Step(1); p != (api.Progress{}) || err != api.ErrOver {
		t.Errorf("21.4: behind a fault: %+v, %d", p, err)
	}
}

// 21.4: a build Write by Write: outputs in the task's order, Flush, record, Flush; nodes, those within ahead, in the order of names; memo, Flush; root, Flush.
func TestWrites(t *testing.T) {
	g := newGround(t, 60, 8)
	manifest := lines(
		"task z 99", "in a/y", "out b/q/x = in(a/y)", "out b/p = \"P\"", "end",
		"task a 99", "out a/y = \"Y\"", "out a/x = \"X\"", "end")
	g.begin(manifest)
	if got := g.acts(7); got != "12 13 - 2 - 14 -" { // b/q/x has a/y's bytes
		t.Errorf("21.4: the tasks: %s", got)
	}
	if got := g.acts(2); got != "3 -" {
		t.Errorf("21.4: the record of z: %s", got)
	}
	if got := g.acts(5); got != "15 16 17 18 19" {
		t.Errorf("21.4: the nodes of a, b/q, b, the root; the memo: %s", got)
	}
	if got := g.acts(2); got != "- 1" {
		t.Errorf("21.4: Flush, root: %s", got)
	}
	g.want(g.step(1), done(1, 1))
	g.wantCurrent([]api.File{file("a/x", "X"), file("a/y", "Y"), file("b/p", "P"), file("b/q/x", "Y")})
	nodes := map[int][]string{15: {"x", "y"}, 16: {"x"}, 17: {"p", "q"}, 18: {"a", "b"}}
	for _, ref := range g.Engine.current.chains {
		want, ok := nodes[ref.First]
		if !ok {
			continue
		}
		b, _, _ := chain.Get(g.disk, 10, ref)
		l, _ := node.Decode(b)
		var names []string
		for _, e := range l {
			names = append(names, e.Name)
		}
		if !slices.Equal(names, want) {
			t.Errorf("21.4: the node at %d has %v, want %v", ref.First, names, want)
		}
	}
	slot := slotIn(t, g.disk, 1)
	want := api.Slot{Sectors: 60, Journal: 8, Turn: 1, Gen: 1, Start: 2, Key: g.Stat().Key, Root: slot.Root, Memo: slot.Memo}
	if slot != want || slot.Root.First != 18 || slot.Memo.First != 19 {
		t.Errorf("21.4: the slot: %+v, want %+v", slot, want)
	}
}

// The memo, DOC 'A record': what they say, byte by byte.
func TestRecordsAndMemo(t *testing.T) {
	g := newGround(t, 60, 8)
	src := []api.File{file("in", "i")}
	manifest := lines(
		"task b 99", "in in mid", "out o = cat(in(in),in(mid))", "out p = in(mid)", "end",
		"task a 99", "out mid = \"m\"", "end")
	g.publish(manifest, src...)
	ref := func(data string, first int) api.Ref {
		return api.Ref{Hash: sha.Sum([]byte(data)), First: first, Len: len(data)}
	}
	p := prints(manifest, src)
	records := []api.Record{
		{Num: 0, Print: p["a"], Refs: []api.Ref{ref("m", 12)}},
		{Num: 1, Print: p["b"], Refs: []api.Ref{ref("im", 13), ref("m", 12)}},
	}
	memo := map[api.Key][]api.Ref{}
	for i, want := range records {
		got := recordIn(t, g.disk, 2+i)
		if got.Num != want.Num || got.Print != want.Print || !slices.Equal(got.Refs, want.Refs) {
			t.Errorf("DOC: the record %d: %+v, want %+v", i, got, want)
		}
		memo[want.Print] = want.Refs
	}
	b, _, err := chain.Get(g.disk, 10, slotIn(t, g.disk, 1).Memo)
	if err != api.OK || !bytes.Equal(b, memoBytes(memo)) {
		t.Errorf("21: the memo: %x, want %x", b, memoBytes(memo))
	}
	// Of what is used, not run, the memo tells likewise.
	more := manifest + text("c", "q", "Q")
	g.publish(more, src...)
	p = prints(more, src)
	memo[p["c"]] = []api.Ref{ref("Q", 16)}
	b, _, err = chain.Get(g.disk, 10, slotIn(t, g.disk, 0).Memo)
	if err != api.OK || !bytes.Equal(b, memoBytes(memo)) {
		t.Errorf("21: the memo of what is used: %x, want %x", b, memoBytes(memo))
	}
}

// 21.4: what is broken of a manifest ahead of all tasks ends the build without an act.
func TestPlanFaults(t *testing.T) {
	g := newGround(t, 40, 8)
	for manifest, want := range map[string]api.Fault{
		"task":                      {Err: api.ErrWord, Line: 1},
		"\n\ntask t 9\nout o = \"x": {Err: api.ErrOpen, Line: 4},
		lines("task t 9", "in o", "out o = \"\"", "end"): {Err: api.ErrCycle, Task: "t"},
		lines("task t 9", "in x", "out o = \"\"", "end"): {Err: api.ErrNeed, Task: "t"},
		strings.Repeat(" ", api.MaxManifest+1):           {Err: api.ErrLong},
	} {
		g.begin(manifest, file("in", ""))
		g.want(g.step(5), api.Progress{Ended: true, Fault: want})
	}
	if s := g.Stat(); s.Runs != 0 || s.Gen != 0 || s.Held != 2 || s.Free != 28 {
		t.Errorf("21.4: %+v", s)
	}
	if a := g.disk.Acts(); a.Writes != 12 || a.Flushes != 3 {
		t.Errorf("21.4: %v", a)
	}
}

// 21.4: a fault of a task that is run ends the build: what is staged stays, all else is free.
func TestRunFaults(t *testing.T) {
	g := newGround(t, 40, 8)
	good := text("a", "o", "x")
	for i, c := range []struct {
		task string
		want api.Errno
	}{
		{lines("task t 9", "out p = fail(\"x\")", "end"), api.ErrFailed},
		{lines("task t 1", "out p = cat(\"x\",\"y\")", "end"), api.ErrBudget},
		{lines("task t 9", "out p = \"p\"", "out q = var(x)", "end"), api.ErrUnknown},
		{lines("task t 9", "out p = replace(\"a\",\"\",\"b\")", "end"), api.ErrEmpty},
	} {
		p := g.build(good + c.task)
		acts := 0
		if i == 0 {
			acts = 4 // that of a is kept from then on
		}
		g.want(p, api.Progress{Acts: acts, Ended: true, Fault: api.Fault{Err: c.want, Task: "t"}})
		g.wantStat(3, 0, 27, 1)
		if s := g.Stat(); s.Runs != 2+i || s.Gen != 0 || s.Records != 1 {
			t.Errorf("21.4: %+v", s)
		}
	}
}

// wide: tasks of eight outputs, one more than may be in one directory; the last one's name.
func wide() (string, string) {
	var m strings.Builder
	name := ""
	for i := range api.MaxDir/api.MaxOuts + 1 {
		name = "t" + string(rune('a'+i/26)) + string(rune('a'+i%26))
		m.WriteString("task " + name + " 99\n")
		for j := range api.MaxOuts {
			m.WriteString("out n" + name + string(rune('0'+j)) + " = \"\"\n")
		}
		m.WriteString("end\n")
	}
	return m.String(), name
}

// 21.4, den: ErrTree behind a task that was run, and behind one that was used; its outputs are not put.
func TestTreeFault(t *testing.T) {
	manifest, last := wide()
	want := api.Fault{Err: api.ErrTree, Task: last}
	g := newGround(t, 400, 200)
	p := g.build(manifest)
	if p.Fault != want || p.Acts != 1+128*3 || g.Stat().Runs != 129 || g.Stat().Kept != 128 {
		t.Fatalf("21.4: %+v, %d runs, %d kept", p, g.Stat().Runs, g.Stat().Kept)
	}
	g = newGround(t, 400, 200)
	g.leave(4, manifest[strings.Index(manifest, "task "+last):])
	if p := g.build(manifest); p.Fault != want || g.Stat().Runs != 129 || g.Stat().Kept != 129 {
		t.Fatalf("21.4: behind a task that was used: %+v, %d runs", p, g.Stat().Runs)
	}
}

// 21.4: a result that is kept is used: no act, no run; also across builds of other manifests.
func TestKeptIsUsed(t *testing.T) {
	g := newGround(t, 60, 8)
	g.begin(text("a", "o", "x") + text("b", "p", "y"))
	g.step(8)
	g.Cancel()
	g.want(g.step(1), failed(0, api.ErrCancelled))
	g.wantStat(4, 0, 46, 2)
	g.want(g.build(text("b", "p", "y")+text("c", "q", "x")), done(1+2+2+3, 1)) // c's bytes lie there; record, node, memo, root
	if s := g.Stat(); s.Runs != 3 || s.Kept != 0 || s.Records != 0 {
		t.Errorf("21.4: %+v", s)
	}
	g.wantCurrent([]api.File{file("p", "y"), file("q", "x")})
	// The memo has what the last build had, and nothing of a.
	g.publish(text("a", "o", "x") + text("b", "p", "y") + text("c", "q", "x"))
	if s := g.Stat(); s.Runs != 4 {
		t.Errorf("21.4: %+v", s)
	}
	g.publish(text("c", "q", "x"))
	g.publish(text("b", "p", "y"))
	if s := g.Stat(); s.Runs != 5 {
		t.Errorf("21.4: %+v", s)
	}
}

// 21.4: a task's print hangs on its inputs, be they files of the source or outputs.
func TestPrintsOfInputs(t *testing.T) {
	g := newGround(t, 80, 8)
	manifest := lines(
		"task a 99", "in s", "out m = upper(in(s))", "end",
		"task b 99", "in m", "out n = lower(in(m))", "end",
		"task c 99", "in u", "out o = in(u)", "end")
	runs := func(src ...api.File) int {
		before := g.Stat().Runs
		g.publish(manifest, src...)
		return g.Stat().Runs - before
	}
	if n := runs(file("s", "x"), file("u", "1")); n != 3 {
		t.Errorf("21.4: %d runs", n)
	}
	if n := runs(file("u", "1"), file("s", "x"), file("other", "")); n != 0 {
		t.Errorf("21.4: %d runs of the same", n)
	}
	if n := runs(file("s", "X"), file("u", "1")); n != 1 {
		t.Errorf("21.4: %d runs where a alone has another input, and makes the same", n)
	}
	if n := runs(file("s", "y"), file("u", "1")); n != 2 {
		t.Errorf("21.4: %d runs where a makes another", n)
	}
	if n := runs(file("s", "y"), file("u", "2"), file("m", "Z")); n != 1 {
		t.Errorf("21.4: %d runs; an output is taken from its task", n)
	}
	g.wantCurrent([]api.File{file("m", "Y"), file("n", "y"), file("o", "2")})
}

// 21.4: where a kept result's chain isn't whole the task is run, the memo isn't asked, and its bytes are written anew.
func TestBrokenIsRun(t *testing.T) {
	g := newGround(t, 60, 8)
	m := lines("task a 99", "out o = \"x\"", "out p = \"y\"", "end")
	g.begin(m)
	g.step(5) // 12, 13, Flush, record, Flush
	g.Cancel()
	g.step(1)
	g.disk.Turn(13, 5)
	g.begin(m)
	if got := g.acts(4); got != "14 - 3 -" {
		t.Errorf("21.4: %s", got)
	}
	if s := g.Stat(); s.Runs != 2 || s.Kept != 1 || s.Spent != 1 || s.Held != 4 || s.Records != 2 {
		t.Errorf("21.4: %+v", s)
	}
	if n := g.Check(); n != none {
		t.Errorf("21.12: Check: %d", n)
	}
	g.step(99)
	// The memo's: the current tree's chain is broken and written anew, and the tree has the new one.
	first := g.Engine.current.memo[prints(m, nil)["a"]][0].First
	g.disk.Turn(first, 7)
	if n := g.Check(); n != first {
		t.Errorf("21.12: Check: %d, want %d", n, first)
	}
	g.publish(m)
	if s := g.Stat(); s.Runs != 3 || g.Check() != none {
		t.Errorf("21.4: %+v, Check: %d", s, g.Check())
	}
	g.wantCurrent([]api.File{file("o", "x"), file("p", "y")})
	// A kept result that is broken stands ahead of a memo that is whole.
	g = newGround(t, 60, 8)
	g.publish(m)
	g.Engine.kept.put(api.Record{Num: -5, Print: prints(m, nil)["a"], Refs: []api.Ref{{First: 50, Len: 1}, {First: 51, Len: 1}}})
	g.publish(m)
	if s := g.Stat(); s.Runs != 2 {
		t.Errorf("21.4: %+v", s)
	}
	// So does one of another number of refs.
	memory := g.Engine.current.memo[prints(m, nil)["a"]]
	g.Engine.kept.put(api.Record{Num: -5, Print: prints(m, nil)["a"], Refs: memory[:1]})
	g.Engine.store.Use(memory[0])
	g.publish(m)
	if s := g.Stat(); s.Runs != 3 || s.Kept != 0 {
		t.Errorf("21.4: %+v", s)
	}
	// And a memo's is no use with another number.
	g.Engine.current.memo[prints(m, nil)["a"]] = g.Engine.current.memo[prints(m, nil)["a"]][:1]
	g.publish(m)
	if s := g.Stat(); s.Runs != 4 {
		t.Errorf("21.4: %+v", s)
	}
}

// 21.4: a result that can't be used has no use more than it had.
func TestBrokenIsLetGo(t *testing.T) {
	g := newGround(t, 60, 8)
	m := lines("task a 99", "out o = \"x\"", "out p = \"y\"", "end")
	g.publish(m)
	refs := g.Engine.current.memo[prints(m, nil)["a"]]
	g.disk.Turn(refs[1].First, 7)
	g.begin(m)
	g.step(1) // p's bytes, anew; o's are used by the put
	if u, v := g.Engine.store.Uses(refs[0]), g.Engine.store.Uses(refs[1]); u != 2 || v != 1 {
		t.Errorf("21.4: %d and %d uses", u, v)
	}
	g.Cancel()
	g.step(1)
	if u, v := g.Engine.store.Uses(refs[0]), g.Engine.store.Uses(refs[1]); u != 1 || v != 1 {
		t.Errorf("21.4: %d and %d uses", u, v)
	}
	g.wantStat(4, 2, 44, 0)
}

// 21.4: where nothing is another nothing is written but the root; and just what is new where something is.
func TestJustWhatIsNew(t *testing.T) {
	g := newGround(t, 80, 8)
	base := text("a", "d/x", "1") + text("b", "e/f/y", "2")
	g.publish(base)
	if n := g.publish(base); n != 3 {
		t.Errorf("21.4: the same once more: %d acts", n)
	}
	if n := g.publish("# a remark\n" + base); n != 3 {
		t.Errorf("21.4: with a remark: %d acts", n)
	}
	g.begin(base + text("c", "d/z", "2"))
	if got := g.acts(9); got != "- 4 - 19 20 21 - 0 -" { // the bytes lie there; the nodes of d and the root, and the memo
		t.Errorf("21.4: one file more, of bytes that lie there: %s", got)
	}
	if n := g.publish(text("b", "e/f/y", "2")); n != 5 { // the root, the memo
		t.Errorf("21.4: one directory less: %d acts", n)
	}
	g.wantCurrent([]api.File{file("e/f/y", "2")})
}

// 21.4, DOC: nothing is ever put twice: a file may have a node's bytes, or the memo's.
func TestSharedChains(t *testing.T) {
	g := newGround(t, 60, 8)
	// The node of the empty tree, and the empty memo, are held at first.
	g.publish(lines("task a 99", "out n = \"\\x01\\x00\"", "out m = \"\\x02\\x00\"", "end"))
	refs := g.Engine.current.memo[prints(lines("task a 99", "out n = \"\\x01\\x00\"", "out m = \"\\x02\\x00\"", "end"), nil)["a"]]
	if refs[0].First != 10 || refs[1].First != 11 {
		t.Errorf("DOC: %+v", refs)
	}
	g.wantStat(4, 0, 46, 0)
	g.publish("")
	g.wantStat(2, 2, 46, 0)
	if g.Engine.current.root.First != 10 || g.Engine.current.note.First != 11 {
		t.Errorf("DOC: the empty tree's node and memo lie at %d, %d", g.Engine.current.root.First, g.Engine.current.note.First)
	}
}

// 21.4: ErrNoSpace, of each put there is; then what was taken is free, and what was used is held no more.
func TestNoSpace(t *testing.T) {
	m := big("a", "o", "x", 3) + big("b", "d/p", "y", 2)
	// 3 sectors, 2 sectors, the nodes of d and the root, the memo
	for free, want := range map[int]struct{ acts, held, kept int }{
		0: {0, 2, 0}, 2: {0, 2, 0}, 3: {3 + 3, 5, 1}, 4: {6, 5, 1},
		5: {6 + 2 + 3, 7, 2}, 6: {11 + 1, 7, 2}, 7: {11 + 2, 7, 2},
	} {
		g := newGround(t, 12+free, 8)
		g.want(g.build(m), failed(want.acts, api.ErrNoSpace))
		g.wantStat(want.held, 0, 10+free+2-10-want.held, want.kept)
		if s := g.Stat(); s.Gen != 0 || s.Turn != 0 {
			t.Errorf("21.4: %+v", s)
		}
		// It has changed nothing: a smaller build has room.
		if free > 3 {
			g.scavenge()
			g.publish(text("c", "q", "z"))
		}
	}
	g := newGround(t, 12+8, 8)
	g.want(g.build(m), done(11+3+3, 1))
	g.wantStat(8, 2, 0, 0)
}

// 21.4: ErrBroken: a node of the current tree, which is read when all tasks are done.
func TestBrokenTree(t *testing.T) {
	g := newGround(t, 60, 8)
	g.publish(text("a", "d/o", "x"))
	g.disk.Turn(13, 100) // d's node
	g.want(g.build(text("a", "d/o", "x")), failed(0, api.ErrBroken))
	g.wantStat(4, 2, 44, 0)
	g.want(g.build(text("b", "p", "y")), failed(4, api.ErrBroken)) // b's result is kept
	g.wantStat(5, 2, 43, 1)
	g.disk.Turn(13, 100)
	g.publish(text("b", "p", "y"))
	if s := g.Stat(); s.Runs != 2 {
		t.Errorf("21.4: %+v", s)
	}
}

// 21.4: ErrBroken of the current tree comes where a file is whole or not: no file is read for it.
func TestBrokenFile(t *testing.T) {
	g := newGround(t, 60, 8)
	g.publish(text("a", "d/o", "x") + text("b", "q", "y"))
	g.disk.Turn(12, 100) // d/o's bytes
	g.publish(text("b", "q", "y"))
	g.wantCurrent([]api.File{file("q", "y")})
	if g.Check() != none {
		t.Errorf("21.12: %d", g.Check())
	}
}

// 21.4: when the journal is full the root is written anew: its Start is the next record's number less half of the journal.
func TestFullJournal(t *testing.T) {
	for _, size := range []int{8, 9, 11} {
		g := newGround(t, 200, size)
		g.begin(many(0, size+2))
		g.step(4 * size)
		if s := g.Stat(); s.Records != size || s.Turn != 0 || s.Kept != size {
			t.Fatalf("21.4: %+v", s)
		}
		if got := g.acts(2); got == "" || g.Stat().Turn != 0 {
			t.Fatalf("21.4: %s", got)
		}
		if got := g.acts(1); got != "1" || g.Stat().Turn != 1 || g.Stat().Records != size/2 || g.Stat().Kept != size {
			t.Fatalf("21.4: the root: %s, %+v", got, g.Stat())
		}
		slot := slotIn(t, g.disk, 1)
		want := slotIn(t, g.disk, 0)
		want.Turn, want.Start = 1, size-size/2
		if slot != want {
			t.Errorf("21.4: %+v, want %+v", slot, want)
		}
		if got := g.acts(3); got != "- 2 -" { // the record that comes next stands in the first one's place
			t.Errorf("21.4: %s", got)
		}
		p := g.step(math.MaxInt)
		if p.Gen != 1 || p.Acts != 4+2+3+chain.Sectors(g.Engine.current.note.Len)+chain.Sectors(g.Engine.current.root.Len)-2 {
			t.Errorf("21.4: %+v", p)
		}
		if s := g.Stat(); s.Turn != 2 || s.Runs != size+2 || s.Kept != 0 || s.Records != 0 {
			t.Errorf("21.4: %+v", s)
		}
	}
}

// 21.4, DOC: with a full journal the older results are kept all the same, by this engine alone.
func TestOlderAreKept(t *testing.T) {
	g := newGround(t, 200, 8)
	m := many(0, 9)
	g.leave(8*4+2+2+2, m)
	if s := g.Stat(); s.Kept != 9 || s.Records != 5 || s.Runs != 9 {
		t.Fatalf("21.4: %+v", s)
	}
	d := copyOf(g.disk)
	g.publish(m)
	if s := g.Stat(); s.Runs != 9 {
		t.Errorf("21.4: %+v", s)
	}
	e, _ := Open(d)
	if s := e.Stat(); s.Kept != 5 || s.Records != 5 || s.Held != 2+5 {
		t.Errorf("21.4: the next Open: %+v", s)
	}
}

// 21.4: ErrLast, ahead of a record, or of a root whose Turn, Gen or Start has no number.
func TestLast(t *testing.T) {
	for _, c := range []struct {
		turn, gen, start int
		acts             int
	}{
		{api.MaxCount, 7, 0, 4 + 2 + 1},
		{api.MaxCount - 1, api.MaxCount, 0, 4 + 2 + 1},
		{5, 7, api.MaxCount, 4 + 2 + 1}, // the last record: no Start is behind it
		{5, 7, api.MaxCount - 1, 0},
		{api.MaxCount - 1, api.MaxCount - 1, 0, 0},
	} {
		h := newHandDisk(t, 60)
		h.slot.Turn, h.slot.Gen, h.slot.Start = c.turn, c.gen, c.start
		g := &ground{t: t, disk: h.disk, Engine: h.open()}
		m := text("t", "o", "x")
		if c.acts == 0 {
			g.publish(m)
			continue
		}
		g.want(g.build(m), failed(c.acts, api.ErrLast))
		g.wantStat(3, 0, 47, 1)
	}
	h := newHandDisk(t, 60)
	h.slot.Start = api.MaxCount
	h.record(api.MaxCount, api.Key{1}, h.lay([]byte("k")))
	g := &ground{t: t, disk: h.disk, Engine: h.open()}
	g.want(g.build(text("t", "o", "x")), failed(2, api.ErrLast)) // the output, Flush
	g.wantStat(3, 0, 47, 1)
	if err := g.Scavenge(); err != api.OK {
		t.Fatal(err)
	}
	g.want(g.sweep(9), failed(3, api.ErrLast))
	g.wantStat(3, 0, 47, 1)
}

// 21.4: ErrLast ahead of the root with which room is made in the journal.
func TestLastTurn(t *testing.T) {
	h := newHandDisk(t, 80)
	h.slot.Turn = api.MaxCount
	for i := range 8 {
		h.record(i, api.Key{byte(i)}, h.lay([]byte{byte(i)}))
	}
	g := &ground{t: t, disk: h.disk, Engine: h.open()}
	g.want(g.build(text("t", "o", "x")), failed(2, api.ErrLast))
	g.wantStat(10, 0, 60, 8)
}
