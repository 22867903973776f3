package print

import (
	"bytes"
	"fmt"
	"slices"
	"strings"
	"testing"

	"kiln/api"
	"kiln/parse"
)

// printOf: the print of what has one.
func printOf(t *testing.T, x api.Task, keys []api.Key) api.Key {
	t.Helper()
	p, err := Fingerprint(x, keys)
	if err != api.OK {
		t.Fatalf("Fingerprint(%s, %d keys): %d", shown(x), len(keys), err)
	}
	return p
}

// read: the tasks of a manifest.
func read(t *testing.T, text string) []api.Task {
	t.Helper()
	l, err, line := parse.Manifest(text)
	if err != api.OK {
		t.Fatalf("%q: %d on line %d", text, err, line)
	}
	return l
}

// 15.2: how a task was written in a manifest turns nothing.
func TestHowItIsWritten(t *testing.T) {
	keys := []api.Key{rising(), {1}}
	want := printOf(t, read(t, "task a 9\nin x y/z\nout o = cat(in(x),\"A\\n\",in(y/z))\nend\n")[0], keys)
	for _, text := range []string{
		"task a 9\nin x y/z\nout o = cat(in(x),\"A\\n\",in(y/z))\nend",
		"\n\n# a remark\n  task  a   9  # another\n\nin x   y/z\n\n\n out o=cat ( in( x ) , \"A\\n\" , in(y/z) )\nend # \n\n",
		"task a 9\nin x y/z\nout o = cat(in(x),\"\\x41\\x0a\",in(y/z))\nend\n",
	} {
		if p := printOf(t, read(t, text)[0], keys); p != want {
			t.Errorf("15.2: written as %q it has another print", text)
		}
	}
}

// 15.2: what else a manifest says turns nothing: tasks ahead, behind, that make what it takes or take what it makes.
func TestWhatElseIsSaid(t *testing.T) {
	keys := []api.Key{rising()}
	task := "task a 9\nin x\nout o = in(x)\nend\n"
	want := printOf(t, read(t, task)[0], keys)
	maker, taker := "task b 7\nout x = \"\"\nend\n", "task c 8\nin o\nout p = in(o)\nend\n"
	for _, r := range []struct {
		text  string
		place int
	}{{maker + task, 1}, {task + maker, 0}, {taker + maker + task, 2}, {maker + task + taker, 1}, {taker + task, 1}} {
		l := read(t, r.text)
		if p := printOf(t, l[r.place], keys); p != want {
			t.Errorf("15.2: in %q it has another print", r.text)
		}
	}
}

// 15.2: nil and empty lists are the same.
func TestEmptyLists(t *testing.T) {
	x := makes(nil, out("o", lit("a")))
	y := makes([]string{}, out("o", api.Term{Kind: api.TText, Text: "a", Args: []api.Term{}}))
	want := printPlainly(x, nil)
	for _, keys := range [][]api.Key{nil, {}} {
		wantPrint(t, x, keys, want)
		wantPrint(t, y, keys, want)
	}
}

// others: tasks with as many inputs as this one, each unlike it in one thing.
func others() (api.Task, []api.Task) {
	first := func() api.Task {
		return api.Task{Name: "a", Budget: 9, In: takes("x", "y"), Out: []api.Output{out("o", call(api.TIf, in("x"), part(in("y"), 1, 2), each("l", lit("t"), lit("")))), out("p", lit("t"))}}
	}
	var l []api.Task
	for _, turn := range []func(*api.Task){
		func(x *api.Task) { x.Name = "b" },
		func(x *api.Task) { x.Name = "A" },
		func(x *api.Task) { x.Name = "aa" },
		func(x *api.Task) { x.Budget = 8 },
		func(x *api.Task) { x.Budget = 99 },
		func(x *api.Task) { x.In[0] = "z" },
		func(x *api.Task) { x.In[1] = "y/z" },
		func(x *api.Task) { slices.Reverse(x.In) },
		func(x *api.Task) { x.Out[0].Path = "q" },
		func(x *api.Task) { x.Out[1].Path = "p/p" },
		func(x *api.Task) { slices.Reverse(x.Out) },
		func(x *api.Task) { x.Out = x.Out[:1] },
		func(x *api.Task) { x.Out = x.Out[1:] },
		func(x *api.Task) { x.Out = append(x.Out, out("q", lit(""))) },
		func(x *api.Task) { x.Out[0].Term, x.Out[1].Term = x.Out[1].Term, x.Out[0].Term },
		func(x *api.Task) { x.Out[1].Term.Text = "T" },
		func(x *api.Task) { x.Out[1].Term.Text = "" },
		func(x *api.Task) { x.Out[1].Term.Text = "t\x00" },
		func(x *api.Task) { x.Out[1].Term = in("t") },
		func(x *api.Task) { x.Out[1].Term = call(api.TCat, lit("t")) },
		func(x *api.Task) { x.Out[0].Term.Kind = api.TReplace },
		func(x *api.Task) { slices.Reverse(x.Out[0].Term.Args) },
		func(x *api.Task) { x.Out[0].Term.Args[0].Text = "y" },
		func(x *api.Task) { x.Out[0].Term.Args[0].Kind = api.TVar },
		func(x *api.Task) { x.Out[0].Term.Args[1].N = 2 },
		func(x *api.Task) { x.Out[0].Term.Args[1].M = 1 },
		func(x *api.Task) { x.Out[0].Term.Args[1].N, x.Out[0].Term.Args[1].M = 2, 1 },
		func(x *api.Task) { x.Out[0].Term.Args[2].Text = "m" },
		func(x *api.Task) { slices.Reverse(x.Out[0].Term.Args[2].Args) },
	} {
		x := first()
		turn(&x)
		l = append(l, x)
	}
	return first(), l
}

// 15.2, 15.3: it hangs on each thing of a task.
func TestEachThingCounts(t *testing.T) {
	x, l := others()
	keys := []api.Key{rising(), {7}}
	seen := map[api.Key]string{printOf(t, x, keys): shown(x)}
	for _, y := range l {
		p := printOf(t, y, keys)
		if before, ok := seen[p]; ok {
			t.Errorf("15.3: %s and %s have one print", before, shown(y))
		}
		seen[p] = shown(y)
	}
}

// 15.2, 15.3: it hangs on each bit of each key, and on the order of keys.
func TestEachKeyCounts(t *testing.T) {
	x := makes(inputs(64), out("o", lit("")))
	keys := newChance(4).keys(64)
	keys[5] = keys[6] // which bit of which, not how many
	seen := map[api.Key]bool{printOf(t, x, keys): true}
	unlike := func(what string) {
		t.Helper()
		p := printOf(t, x, keys)
		if seen[p] {
			t.Fatalf("15.3: %s: a print that was told already", what)
		}
		seen[p] = true
	}
	for i := range keys {
		for bit := range 256 {
			keys[i][bit/8] ^= 1 << (bit % 8)
			unlike(fmt.Sprintf("bit %d of the key %d", bit, i))
			keys[i][bit/8] ^= 1 << (bit % 8)
		}
	}
	for i := range keys {
		for j := range i {
			if keys[i] != keys[j] {
				keys[i], keys[j] = keys[j], keys[i]
				unlike(fmt.Sprintf("keys %d and %d by turns", i, j))
				keys[i], keys[j] = keys[j], keys[i]
			}
		}
	}
}

// 15.3: of all that chance makes, two that are unlike have unlike prints, and two that are the same have one.
func TestUnlikePrints(t *testing.T) {
	c := newChance(5)
	seen := map[api.Key]string{}
	like := map[string]api.Key{}
	for range 20000 {
		x := api.Task{Name: one(c, "a", "b"), Budget: 1 + c.Intn(2), In: c.paths(c.Intn(3)), Out: []api.Output{out("o", c.term(1+c.Intn(2)))}}
		var keys []api.Key
		for range x.In {
			keys = append(keys, api.Key{byte(c.Intn(2)), 31: byte(c.Intn(2))})
		}
		all := fmt.Sprintf("%#v %v", x, keys)
		p := printOf(t, x, keys)
		if before, ok := seen[p]; ok && before != all {
			t.Fatalf("15.3: %s and %s have one print", before, all)
		}
		if before, ok := like[all]; ok && before != p {
			t.Fatalf("15.2: %s has two prints", all)
		}
		seen[p], like[all] = all, p
	}
}

// 15.3: nothing that is hashed begins with what is hashed of another task, though a task may say the bytes of a key.
func TestPartsStayApart(t *testing.T) {
	key := api.Key(bytes.Repeat([]byte{'k'}, 32))
	with := makes(takes("x"), out("o", lit("t")))
	without := makes(nil, out("o", lit("t")))
	said := makes(takes("x"), out("o", lit("t")), out("p", lit(strings.Repeat("k", 32))))
	two := makes(takes("x", "y"), out("o", lit("t")))
	hashed := [][][]byte{parts(textPlainly(with), []api.Key{key}), parts(textPlainly(without), nil), parts(textPlainly(said), []api.Key{key}), parts(textPlainly(two), []api.Key{key, key})}
	for i, a := range hashed {
		for j, b := range hashed {
			if i != j && bytes.HasPrefix(bytes.Join(a, nil), bytes.Join(b, nil)) {
				t.Errorf("15.3: what is hashed of %d begins what is hashed of %d", j, i)
			}
		}
	}
}
