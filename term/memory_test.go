package term

import (
	"bytes"
	"math"
	"reflect"
	"slices"
	"sync"
	"testing"

	"kiln/api"
)

// deep: a term nested in so many others.
func deep(n int, around func(api.Term) api.Term) api.Term {
	x := lit("q")
	for range n {
		x = around(x)
	}
	return x
}

// 14.6: as many terms nested in one another as there may be, of each kind, at each argument.
func TestDeep(t *testing.T) {
	const n = 1<<16 - 2
	a, empty := lit("a"), lit("")
	for _, r := range []struct {
		around func(api.Term) api.Term
		want   string
		steps  int // of each of those around it
	}{
		{func(x api.Term) api.Term { return cats(x) }, "q", 2},
		{func(x api.Term) api.Term { return cats(empty, x, empty) }, "q", 4},
		{func(x api.Term) api.Term { return call(api.TUpper, x) }, "Q", 3},
		{func(x api.Term) api.Term { return call(api.TLower, x) }, "q", 3},
		{func(x api.Term) api.Term { return part(x, 0, 1) }, "q", 3},
		{func(x api.Term) api.Term { return call(api.TSort, x) }, "q\n", 3},
		{func(x api.Term) api.Term { return call(api.TUniq, x) }, "q\n", 3},
		{func(x api.Term) api.Term { return call(api.TReplace, x, a, empty) }, "q", 7},
		{func(x api.Term) api.Term { return call(api.TReplace, a, lit("a"), x) }, "q", 8},
		{func(x api.Term) api.Term { return ifs(x, x, nothing) }, "q", 0},
		{func(x api.Term) api.Term { return ifs(a, x, nothing) }, "q", 4},
		{func(x api.Term) api.Term { return ifs(empty, nothing, x) }, "q", 3},
		{func(x api.Term) api.Term { return eachs("x", x, name("x")) }, "q", 4},
		{func(x api.Term) api.Term { return eachs("x", a, x) }, "q", 4},
	} {
		x := deep(n, r.around)
		if r.steps == 0 { // so many that no budget is enough
			wantErr(t, x, nil, 1<<20, api.ErrBudget)
			continue
		}
		wantRun(t, x, nil, math.MaxInt, r.want, 2+n*r.steps)
		wantErr(t, x, nil, 1+n*r.steps, api.ErrBudget)
	}
	wantErr(t, deep(n, failing), nil, n+2, api.ErrFailed)
	wantErr(t, deep(n, failing), nil, n+1, api.ErrBudget)
	wantErr(t, deep(n, func(x api.Term) api.Term { return call(api.TCount, x, empty) }), nil, math.MaxInt, api.ErrEmpty)
	if v, _, err := Run(deep(1<<10, func(x api.Term) api.Term { return call(api.TKey, x) }), nil, math.MaxInt); len(v) != 64 || err != api.OK {
		t.Errorf("14.6: many TKeys: %q, %d", v, err)
	}
}

// 14.6: names bound in one another, as many as there may be, each asked.
func TestDeepNames(t *testing.T) {
	const n = 1 << 15
	numbered := func(i int) string { return string([]byte{byte(i), byte(i >> 8)}) }
	var all []api.Term
	want := ""
	for i := range n {
		all = append(all, name(numbered(i)))
		want += string(rune('a' + i%26))
	}
	x := cats(all...)
	for i := n - 1; i >= 0; i-- {
		x = eachs(numbered(i), lit(want[i:i+1]), x)
	}
	wantValue(t, x, nil, want)
}

// 14.6: terms that share their arguments, or are their own, end with the budget.
func TestShared(t *testing.T) {
	x := lit("")
	for range 100 { // 2^100 nodes, taken one by one
		x = cats(x, x)
	}
	wantErr(t, x, nil, api.MaxBudget, api.ErrBudget)
	wantErr(t, call(api.TFail, x), nil, 5000, api.ErrBudget)
	wantRun(t, ifs(lit(""), x, lit("a")), nil, 9, "a", 5)

	own := []api.Term{lit("a"), {}}
	own[1] = cats(own...)
	own[1].Args = own
	wantErr(t, own[1], nil, 1<<16, api.ErrBudget)
	wantErr(t, ifs(own[1], own[1], own[1]), nil, 1000, api.ErrBudget)
	wantRun(t, ifs(lit("a"), lit("b"), own[1]), nil, 9, "b", 6)
}

// 14.6: many arguments, many lines, many files.
func TestWide(t *testing.T) {
	const n = 300000
	wantRun(t, cats(slices.Repeat([]api.Term{lit("")}, n)...), nil, math.MaxInt, "", 1+n)
	wantErr(t, cats(slices.Repeat([]api.Term{lit("a")}, n)...), nil, math.MaxInt, api.ErrValue)
	wantErr(t, call(api.TUpper, slices.Repeat([]api.Term{lit("a")}, n)...), nil, math.MaxInt, api.ErrUnknown)
	ins := slices.Repeat(source("g", "no", "h", "no"), n)
	wantErr(t, cats(slices.Repeat([]api.Term{in("h")}, n)...), append(ins, source("f", "")...), math.MaxInt, api.ErrValue)
	wantRun(t, cats(slices.Repeat([]api.Term{in("f")}, n)...), append(ins, source("f", "")...), math.MaxInt, "", 1+n)
}

// withRoom: the same term with something in the spare room of its lists.
func withRoom(x api.Term) api.Term {
	l := make([]api.Term, 0, len(x.Args)+2)
	for _, a := range x.Args {
		l = append(l, withRoom(a))
	}
	x.Args = append(l, lit("spare"), nothing)[:len(x.Args)]
	return x
}

// opened: a term with all that lies in its lists and behind them, in new memory.
func opened(x api.Term) api.Term {
	x.Args = slices.Clone(x.Args[:cap(x.Args)])
	for i, a := range x.Args {
		x.Args[i] = opened(a)
	}
	return x
}

// openedFiles: the same of files.
func openedFiles(ins []api.File) []api.File {
	l := slices.Clone(ins[:cap(ins)])
	for i, f := range l {
		l[i].Data = slices.Clone(f.Data[:cap(f.Data)])
	}
	return l
}

// 14.6: what is handed in is not changed, nor the room behind it; and that room is not looked at.
func TestHandedIn(t *testing.T) {
	for seed := range int64(3000) {
		c := newChance(seed, []int{0, 30}[seed%2])
		x, ins := withRoom(c.term(1+c.Intn(5))), c.files()
		for i := range ins {
			ins[i].Data = append(ins[i].Data, "spare room"...)[:len(ins[i].Data)]
		}
		ins = append(ins, source("f", "spare", "x", "room")...)[:len(ins)]
		beforeTerm, beforeFiles := opened(x), openedFiles(ins)
		wantAsRead(t, x, ins, math.MaxInt)
		wantAsRead(t, x, ins, c.Intn(30))
		if !reflect.DeepEqual(opened(x), beforeTerm) || !reflect.DeepEqual(openedFiles(ins), beforeFiles) {
			t.Fatalf("14.6: Run(%s) changed what it was given", shown(x))
		}
	}
}

// 14.6: the value is new memory, spare room too; nothing of a call is seen in another one.
func TestHandedOut(t *testing.T) {
	data := append([]byte("one\ntwo\n"), "spare room"...)
	ins := []api.File{{Path: "f", Data: data[:8]}}
	line := part(in("f"), 0, 1)
	for _, x := range []api.Term{
		in("f"), cats(in("f")), cats(in("f"), lit("")), cats(lit(""), in("f")), ifs(in("f"), in("f"), lit("")), ifs(lit(""), lit(""), in("f")), eachs("x", in("f"), name("x")), eachs("x", in("f"), in("f")), line, part(in("f"), 0, 9),
		call(api.TUpper, call(api.TUpper, in("f"))), call(api.TLower, in("f")), call(api.TSort, in("f")), call(api.TUniq, in("f")), call(api.TReplace, in("f"), lit("x"), lit("y")), call(api.TReplace, in("f"), in("f"), in("f")), eachs("x", line, name("x")), lit("text"), call(api.TKey, in("f")), call(api.TCount, in("f"), lit("o")), lit(""),
	} {
		before := string(data)
		v, steps, err := Run(x, ins, 999)
		w, _, _ := Run(x, ins, 999)
		want := bytes.Clone(v)
		room := v[:cap(v)]
		for i := range room {
			room[i] ^= 0xff
		}
		_ = append(v, "written behind it"...)
		if string(data) != before {
			t.Fatalf("14.6: the value of %s lies in its input", shown(x))
		}
		if !bytes.Equal(w, want) || err != api.OK {
			t.Fatalf("14.6: two values of %s share memory", shown(x))
		}
		wantRun(t, x, ins, 999, string(want), steps)
	}
}

// 14.6: nothing is kept from call to call, whatever ended it.
func TestNothingKept(t *testing.T) {
	for seed := range int64(1000) {
		c := newChance(seed, 10)
		x, y, ins, other := c.term(1+c.Intn(5)), c.term(1+c.Intn(5)), c.files(), c.files()
		wantAsRead(t, x, ins, 10000)
		wantAsRead(t, y, other, c.Intn(50))
		wantAsRead(t, x, ins, 10000)
	}
	wantErr(t, eachs("x", lit("a"), failing(name("x"))), nil, 99, api.ErrFailed)
	wantErr(t, name("x"), nil, 99, api.ErrUnknown)
	wantRun(t, in("f"), source("f", "a"), 99, "a", 2)
	wantErr(t, in("f"), nil, 99, api.ErrUnknown)
}

// 14.6: calls side by side answer as one behind the other.
func TestSideBySide(t *testing.T) {
	c := newChance(3, 0)
	ins := c.files()
	var terms []api.Term
	for range 30 {
		terms = append(terms, c.term(5))
	}
	var all sync.WaitGroup
	for range 8 {
		all.Go(func() {
			for _, x := range terms {
				v, steps, err := Run(x, ins, math.MaxInt)
				if w, n, e := runPlainly(x, ins, math.MaxInt); string(v) != w || err != e || err == api.OK && steps != n {
					t.Errorf("14.6: Run(%s) side by side: %q, %d, %d", shown(x), v, steps, err)
				}
			}
		})
	}
	all.Wait()
}
