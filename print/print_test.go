package print

import (
	"encoding/hex"
	"fmt"
	"math"
	"slices"
	"strings"
	"testing"

	"kiln/api"
	"kiln/sha"
)

// Terms and tasks as the tests write them.
func lit(s string) api.Term                    { return api.Term{Kind: api.TText, Text: s} }
func in(p string) api.Term                     { return api.Term{Kind: api.TIn, Text: p} }
func call(kind int, args ...api.Term) api.Term { return api.Term{Kind: kind, Args: args} }
func part(a api.Term, n, m int) api.Term {
	return api.Term{Kind: api.TLines, N: n, M: m, Args: []api.Term{a}}
}
func each(name string, a, b api.Term) api.Term {
	return api.Term{Kind: api.TEach, Text: name, Args: []api.Term{a, b}}
}
func out(p string, x api.Term) api.Output { return api.Output{Path: p, Term: x} }
func takes(l ...string) []string          { return l }

// makes: a task named a with a budget of 1.
func makes(ins []string, outs ...api.Output) api.Task {
	return api.Task{Name: "a", Budget: 1, In: ins, Out: outs}
}

// example: the task of the chapter's examples.
func example() api.Task {
	return api.Task{Name: "a", Budget: 9, In: takes("x"), Out: []api.Output{out("o", in("x"))}}
}

// rising: the key of 0, 1, 2 and so on.
func rising() api.Key {
	var k api.Key
	for i := range k {
		k[i] = byte(i)
	}
	return k
}

// shown: what a message can show of a task, of which a term may be its own.
func shown(x api.Task) string {
	s := fmt.Sprintf("%.70q %d, inputs %.300q", x.Name, x.Budget, strings.Join(x.In, " "))
	for _, o := range x.Out[:min(9, len(x.Out))] {
		s += fmt.Sprintf(", %.70q = %s", o.Path, shownTerm(o.Term, 4))
	}
	return s
}

// shownTerm: what a message can show of a term, so deep.
func shownTerm(x api.Term, deep int) string {
	s := fmt.Sprintf("%d %.70q %d %d", x.Kind, x.Text, x.N, x.M)
	if deep == 0 {
		return s + " .."
	}
	for _, a := range x.Args[:min(9, len(x.Args))] {
		s += " (" + shownTerm(a, deep-1) + ")"
	}
	return s
}

func wantPrint(t *testing.T, x api.Task, keys []api.Key, want api.Key) {
	t.Helper()
	if p, err := Fingerprint(x, keys); p != want || err != api.OK {
		t.Fatalf("Fingerprint(%s, %d keys) = %x, %d, want %x, OK", shown(x), len(keys), p, err, want)
	}
}

func wantErr(t *testing.T, x api.Task, keys []api.Key, want api.Errno) {
	t.Helper()
	if p, err := Fingerprint(x, keys); p != (api.Key{}) || err != want {
		t.Fatalf("Fingerprint(%s, %d keys) = %x, %d, want zeros, %d", shown(x), len(keys), p, err, want)
	}
}

// wantHex: the print is one that another program worked out.
func wantHex(t *testing.T, x api.Task, keys []api.Key, want string) {
	t.Helper()
	b, err := hex.DecodeString(want)
	if err != nil {
		t.Fatal(err)
	}
	wantPrint(t, x, keys, api.Key(b))
}

// The chapter's examples.
func TestExamples(t *testing.T) {
	x, k := example(), rising()
	text := "task a 9\nin x\nout o = in(x)\nend\n"
	if len(text) != 32 {
		t.Fatalf("the text has %d bytes", len(text))
	}
	want := sha.Sum([]byte{0x20}, []byte(text), []byte{0x20}, k[:])
	wantPrint(t, x, []api.Key{k}, want)
	wantErr(t, x, nil, api.ErrKeys)
	wantErr(t, x, []api.Key{k, k}, api.ErrKeys)
	x.Budget = 0
	wantErr(t, x, nil, api.ErrTask)
	x.Budget = 10
	if p, err := Fingerprint(x, []api.Key{k}); p == want || p == (api.Key{}) || err != api.OK {
		t.Errorf("15.1: another budget: %x, %d", p, err)
	}
}

// 15.1: prints that were worked out elsewhere: no key, several, texts whose length takes one, two and three bytes, and one too long for a manifest.
func TestKnownPrints(t *testing.T) {
	k := rising()
	wantHex(t, example(), []api.Key{k}, "f0e8219bae672cb6f4e3ac71ce8db5c64f738c30938a2a8fec1f3b8f097fad0d")
	wantHex(t, makes(nil, out("o", lit(""))), nil, "abef9be3bd0a4ec8bef46a62b5f61cfc5e428e5d684cc7f2e6887239bec1a462")
	x := makes(takes("x", "y/z"), out("o", call(api.TCat, in("x"), lit("-\n"), part(in("y/z"), 0, 2147483647))), out("p", call(api.TKey, in("x"))))
	x.Budget = 1048576
	wantHex(t, x, []api.Key{k, {}}, "8610e400d609ad4fec0ff9c8863ba70f802a4ae99ed1a49aabb0bcd18eb513dd")
	wantHex(t, makes(nil, out("o", lit(strings.Repeat("q", 300)))), nil, "dfca4a8e2cd5e4b392a5977f2f3f37a4e1a744289f8616738122c7aa722d94ef")
	wantHex(t, makes(nil, out("o", lit(strings.Repeat("q", 70000)))), nil, "666f55a0b0929e9ceba88a868808dbd2fd059e86f36dc2728f3e7063bc5541d7")
}

// 15.1: texts of every length about those where their length takes one byte more.
func TestLengths(t *testing.T) {
	for _, about := range []int{30, 1 << 7, 1 << 14, 1 << 16, 1 << 21} {
		for n := about - 30; n < about+3; n++ {
			x := makes(nil, out("o", lit(strings.Repeat("q", n))))
			wantPrint(t, x, nil, printPlainly(x, nil))
		}
	}
}

// 15.1: every byte of a literal.
func TestBytes(t *testing.T) {
	for c := range 256 {
		x := makes(takes("x"), out("o", lit(string([]byte{byte(c), 'a'}))))
		keys := []api.Key{{byte(c), 31: byte(c)}}
		wantPrint(t, x, keys, printPlainly(x, keys))
	}
}

// 15.1: tasks and keys by chance, against a plain reading of the chapter.
func TestChance(t *testing.T) {
	for seed := range int64(5000) {
		c := newChance(seed)
		x := c.task()
		keys := c.keys(len(x.In))
		wantPrint(t, x, keys, printPlainly(x, keys))
		for n := range len(x.In) + 3 {
			if n != len(x.In) {
				wantErr(t, x, c.keys(n), api.ErrKeys)
			}
		}
	}
}

// inputs: so many paths.
func inputs(n int) []string {
	var l []string
	for i := range n {
		l = append(l, fmt.Sprintf("in/%d", i))
	}
	return l
}

// 15.1: as many keys as inputs, none to the most that there may be.
func TestCounts(t *testing.T) {
	c := newChance(1)
	for n := range 66 {
		x := makes(inputs(n), out("o", lit("")))
		for m := range 67 {
			keys := c.keys(m)
			switch {
			case n > api.MaxIns:
				wantErr(t, x, keys, api.ErrTask)
			case m != n:
				wantErr(t, x, keys, api.ErrKeys)
			default:
				wantPrint(t, x, keys, printPlainly(x, keys))
			}
		}
	}
	wantErr(t, example(), make([]api.Key, 1<<20), api.ErrKeys)
	wantErr(t, example(), make([]api.Key, 257), api.ErrKeys)
	wantErr(t, makes(nil, out("o", lit(""))), make([]api.Key, 256), api.ErrKeys)
}

// 15.1: keys are what they are, zeros and twice the same too; nothing asks whether a term takes an input.
func TestAnyKeys(t *testing.T) {
	x := makes(takes("x", "y", "z"), out("o", in("other")), out("p", api.Term{Kind: api.TVar, Text: "free"}))
	for _, keys := range [][]api.Key{{{}, {}, {}}, {rising(), rising(), rising()}, {{}, rising(), {}}, {{0: 255}, {31: 255}, {16: 1}}} {
		wantPrint(t, x, keys, printPlainly(x, keys))
	}
}

// 15.1: a task may take what it makes itself: whether it can be run is not asked here.
func TestOwnInput(t *testing.T) {
	x := makes(takes("o", "o/p", "p"), out("o", in("o")), out("p", in("o/p")))
	keys := newChance(2).keys(3)
	wantPrint(t, x, keys, printPlainly(x, keys))
}

// nested: a literal with so many terms around it.
func nested(n int) api.Term {
	x := lit("q")
	for range n {
		x = call(api.TUpper, x)
	}
	return x
}

// wrongTasks: tasks that no text says.
func wrongTasks() []api.Task {
	fine := out("o", lit(""))
	var l []api.Task
	for _, name := range []string{"", ".", "..", "a/b", "a b", "a\n", "é", "a\x00", strings.Repeat("n", 65)} {
		l = append(l, api.Task{Name: name, Budget: 1, Out: []api.Output{fine}})
	}
	for _, budget := range []int{0, -1, 1<<20 + 1, 1<<32 + 1, math.MinInt, math.MaxInt} {
		l = append(l, api.Task{Name: "a", Budget: budget, Out: []api.Output{fine}})
	}
	for _, p := range []string{"", "/", "a/", "/a", "a//b", "a/../b", ".", "a b", strings.Repeat("a/", 16) + "a", strings.Repeat("n", 65)} {
		l = append(l, makes(takes(p), fine), makes(takes("x", p), fine), makes(nil, out(p, lit(""))), makes(nil, fine, out(p, lit(""))), makes(nil, out("o", in(p))))
	}
	l = append(l, makes(takes("x", "y", "x"), fine), makes(inputs(65), fine))
	l = append(l, makes(nil), makes(takes("x")), makes(nil, fine, fine), makes(nil, fine, out("o/p", lit(""))), makes(nil, out("o/p/q", lit("")), fine))
	var nine []api.Output
	for _, p := range inputs(9) {
		nine = append(nine, out(p, lit("")))
	}
	l = append(l, makes(nil, nine...))
	for _, x := range []api.Term{
		{}, {Kind: -1}, {Kind: 16}, {Kind: math.MaxInt}, call(api.TText, lit("")), {Kind: api.TText, N: 1}, {Kind: api.TText, M: 1}, call(api.TIn), {Kind: api.TIn, Text: "x", M: 1}, {Kind: api.TVar, Text: "a/b"},
		call(api.TCat), call(api.TUpper), call(api.TUpper, lit(""), lit("")), {Kind: api.TSort, Text: "x", Args: []api.Term{lit("")}}, part(lit(""), -1, 1), part(lit(""), 0, 1<<31), call(api.TReplace, lit(""), lit("")),
		call(api.TCount, lit("")), call(api.TIf, lit(""), lit("")), each("", lit(""), lit("")), each("a", lit(""), api.Term{}), call(api.TKey), call(api.TFail, api.Term{}), nested(64), call(api.TCat, lit(""), nested(64)),
	} {
		l = append(l, makes(takes("x"), out("o", x)), makes(nil, out("p", lit("")), out("o", x)))
	}
	return append(l, api.Task{})
}

// 15.1: a task that no text says is ErrTask, ahead of what is wrong with the keys.
func TestWrongTasks(t *testing.T) {
	for _, x := range wrongTasks() {
		for _, n := range []int{len(x.In), len(x.In) + 1, 0, 1, 64} {
			wantErr(t, x, make([]api.Key, n), api.ErrTask)
		}
	}
}

// 15.1: what stands at the edge of what can be has a print.
func TestEdges(t *testing.T) {
	var eight []api.Output
	for _, p := range inputs(8) {
		eight = append(eight, out(p, lit("")))
	}
	most := makes(inputs(64), eight...)
	most.Name, most.Budget = strings.Repeat("n", 64), 1<<20
	longest := strings.Repeat(strings.Repeat("n", 63)+"/", 3) + strings.Repeat("m", 63)
	for _, x := range []api.Task{
		most, makes(nil, out("o", nested(63))), makes(takes(longest), out(longest, in(longest))), makes(takes(strings.Repeat("a/", 15)+"a"), out("o", part(lit(""), 0, 1<<31-1))),
		makes(nil, out("o", call(api.TCat, slices.Repeat([]api.Term{lit("a")}, 100000)...))),
	} {
		keys := newChance(3).keys(len(x.In))
		wantPrint(t, x, keys, printPlainly(x, keys))
	}
}
