package pins

import (
	"iter"
	"testing"
)

// tens: a table of that many keys, 0, 10, 20 and so on, each with the next number for a value.
func tens(t *testing.T, n int) *both[int, int] {
	t.Helper()
	x := newBoth[int, int]()
	for i := range n {
		k := 7 * i % n // in an order that does not rise, for n that 7 does not divide
		x.put(t, 10*k, 10*k+1)
	}
	x.look(t)
	if len(x.plain) != n {
		t.Fatalf("%d keys, want %d", len(x.plain), n)
	}
	return x
}

// loops: both kinds of loop, and what they tell of a table as it is.
func loops(x *both[int, int], first int) map[string]iter.Seq2[int, int] {
	return map[string]iter.Seq2[int, int]{"All": x.table.All(), "From": x.table.From(first)}
}

// wantOf: what that kind of loop must tell now.
func (x *both[K, V]) wantOf(kind string, first K) plain[K, V] {
	if kind == "All" {
		return x.plain
	}
	return x.plain.from(first)
}

// 19.2: a loop begins when it is ranged over, and not when it is asked for; each time anew.
func TestLoopBegins(t *testing.T) {
	x := newBoth[int, int]()
	kinds := loops(x, 25)
	for i := range 60 {
		switch i % 3 {
		case 0, 1:
			x.put(t, i*17%50, i)
		case 2:
			x.delete(t, i*11%50)
		}
		for kind, loop := range kinds {
			wantLoop(t, loop, x.wantOf(kind, 25))
			wantLoop(t, loop, x.wantOf(kind, 25))
		}
	}
}

// changes: what may be done to a table of tens at one of its keys.
var changes = map[string]func(t *testing.T, x *both[int, int], k int){
	"nothing":      func(t *testing.T, x *both[int, int], k int) {},
	"value":        func(t *testing.T, x *both[int, int], k int) { x.put(t, k, -k) },
	"next value":   func(t *testing.T, x *both[int, int], k int) { x.put(t, k+10, -k) },
	"last value":   func(t *testing.T, x *both[int, int], k int) { x.put(t, k-10, -k) },
	"put behind":   func(t *testing.T, x *both[int, int], k int) { x.put(t, k+1, k) },
	"put ahead":    func(t *testing.T, x *both[int, int], k int) { x.put(t, k-1, k) },
	"delete":       func(t *testing.T, x *both[int, int], k int) { x.delete(t, k) },
	"delete next":  func(t *testing.T, x *both[int, int], k int) { x.delete(t, k+10) },
	"delete ahead": func(t *testing.T, x *both[int, int], k int) { x.delete(t, k-10) },
	"delete all": func(t *testing.T, x *both[int, int], k int) {
		for len(x.plain) > 0 {
			x.delete(t, x.plain[len(x.plain)/2].key)
		}
	},
	"another table": func(t *testing.T, x *both[int, int], k int) {
		for len(x.plain) > 0 {
			x.delete(t, x.plain[0].key)
		}
		for i := range 30 {
			x.put(t, 10*i, i)
		}
	},
}

// 19.2: what is put or deleted while a loop goes on is not seen in it, and is there behind it; at every key, and at one alone.
func TestLoopChanged(t *testing.T) {
	for name, change := range changes {
		for _, n := range []int{1, 2, 3, 5, 20} {
			for only := -1; only < n; only++ {
				for _, kind := range []string{"All", "From"} {
					x := tens(t, n)
					want := x.wantOf(kind, 15)
					var l plain[int, int]
					for k, v := range loops(x, 15)[kind] {
						if only < 0 || k == 10*only {
							change(t, x, k)
						}
						l = append(l, told[int, int]{k, v})
					}
					if !alike(l, want) {
						t.Fatalf("19.2: %s, %s at %d of %d: %v, want %v", kind, name, only, n, l, want)
					}
					x.look(t, -1, 15)
				}
			}
		}
	}
}

// 19.2: a loop may be left at any key: nothing more is told, and the table is as it was.
func TestLoopLeft(t *testing.T) {
	for _, n := range []int{1, 2, 5, 20} {
		x := tens(t, n)
		for _, kind := range []string{"All", "From"} {
			want := x.wantOf(kind, 15)
			for leave := range want {
				calls := 0
				loops(x, 15)[kind](func(k, v int) bool {
					if want[calls] != (told[int, int]{k, v}) {
						t.Errorf("19.2: %s tells %d, %d", kind, k, v)
					}
					calls++
					return calls <= leave
				})
				if calls != leave+1 {
					t.Errorf("19.2: %s, left at %d of %d, went on to %d", kind, leave, n, calls)
				}
				for k := range loops(x, 15)[kind] {
					if k == want[leave].key {
						break
					}
				}
				x.look(t)
			}
		}
	}
}

// leftByReturn: a loop that is left from inside of another one.
func leftByReturn(x *Table[int, int], at int) int {
	for range x.All() {
		for k := range x.From(5) {
			if k >= at {
				return k
			}
		}
	}
	return -1
}

// 19.2: left by a return, a label, or a panic that is caught outside.
func TestLoopLeftOtherwise(t *testing.T) {
	x := tens(t, 20)
	if k := leftByReturn(x.table, 71); k != 80 {
		t.Errorf("19.2: %d", k)
	}
	rounds := 0
outer:
	for a := range x.table.All() {
		for b := range x.table.From(a) {
			rounds++
			if b == a+10 {
				continue outer
			}
			if a == 100 {
				break outer
			}
		}
	}
	if rounds != 21 {
		t.Errorf("19.2: %d rounds", rounds)
	}
	func() {
		defer func() {
			if r := recover(); r != 50 {
				t.Errorf("19.2: caught %v", r)
			}
		}()
		for k := range x.table.All() {
			x.delete(t, 30)
			if k == 50 {
				panic(k)
			}
		}
	}()
	x.look(t)
}

// 19.2: loops in loops, each over what was there when it began.
func TestLoopsNested(t *testing.T) {
	x := tens(t, 8)
	outer := 0
	for a := range x.table.All() {
		want := x.plain
		i := 0
		for b, v := range x.table.All() {
			if i >= len(want) || want[i] != (told[int, int]{b, v}) {
				t.Fatalf("19.2: the inner loop at %d tells %d, %d", i, b, v)
			}
			i++
			x.delete(t, a)
			x.put(t, 1000+b, a)
		}
		if i != len(want) {
			t.Errorf("19.2: the inner loop tells %d, want %d", i, len(want))
		}
		outer++
		x.delete(t, 1000+a)
	}
	if outer != 8 {
		t.Errorf("19.2: the outer loop tells %d", outer)
	}
	x.look(t)
}

// pulled: a loop that is gone through by single calls.
type pulled struct {
	want plain[int, int]
	next func() (int, int, bool)
	stop func()
}

// 19.2: many loops at once, gone on with by turns while the table changes; each begins with its first key, and some are left.
func TestLoopsByTurns(t *testing.T) {
	x := tens(t, 30)
	var open []pulled
	for round := range 400 {
		first := round * 13 % 320
		kind := []string{"All", "From"}[round%2]
		next, stop := iter.Pull2(loops(x, first)[kind])
		p := pulled{want: x.wantOf(kind, first), next: next, stop: stop}
		open = append(open, p.goOn(t))
		x.put(t, round*7%320, round)
		x.delete(t, round*31%320)
		for i := range open {
			open[i] = open[i].goOn(t)
		}
		if round%5 == 4 {
			open[0].stop()
			open = open[1:]
		}
	}
	for _, p := range open {
		for p.want != nil {
			p = p.goOn(t)
		}
		p.stop()
	}
	x.look(t)
}

// goOn: one key more, or its end.
func (p pulled) goOn(t *testing.T) pulled {
	t.Helper()
	k, v, ok := p.next()
	if ok != (len(p.want) > 0) || ok && p.want[0] != (told[int, int]{k, v}) {
		t.Fatalf("19.2: %d, %d, %t, want %v", k, v, ok, p.want)
	}
	if !ok {
		p.want = nil
		return p
	}
	p.want = p.want[1:]
	return p
}

// 19.2: loops of nothing.
func TestLoopEmpty(t *testing.T) {
	x := newBoth[int, int]()
	for kind, loop := range loops(x, 0) {
		loop(func(int, int) bool {
			t.Errorf("19.2: %s of none tells something", kind)
			return true
		})
	}
	x.put(t, 3, 3)
	for k := range x.table.From(4) {
		t.Errorf("19.2: From behind the last tells %d", k)
	}
}
