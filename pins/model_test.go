package pins

import (
	"cmp"
	"iter"
	"math/rand"
	"testing"

	"kiln/api"
)

// told: a key with its value, as a loop tells them.
type told[K cmp.Ordered, V any] struct {
	key   K
	value V
}

// ahead: whether one key is ahead of another: of floats what is no number is ahead of all that is one.
func ahead[K cmp.Ordered](a, b K) bool {
	return a < b || a != a && b == b
}

// same: whether two keys are one.
func same[K cmp.Ordered](a, b K) bool {
	return !ahead(a, b) && !ahead(b, a)
}

// plain: a table as the chapter says it: a list by rising key that is gone through from its beginning on.
type plain[K cmp.Ordered, V any] []told[K, V]

// at: where a key is, or would be, and whether it is there.
func (p plain[K, V]) at(k K) (int, bool) {
	i := 0
	for i < len(p) && ahead(p[i].key, k) {
		i++
	}
	return i, i < len(p) && same(p[i].key, k)
}

func (p *plain[K, V]) put(k K, v V) bool {
	i, there := p.at(k)
	rest := (*p)[i:]
	if there {
		rest = rest[1:]
	}
	l := append(plain[K, V]{}, (*p)[:i]...)
	*p = append(append(l, told[K, V]{k, v}), rest...)
	return there
}

func (p *plain[K, V]) delete(k K) bool {
	i, there := p.at(k)
	if there {
		*p = append(append(plain[K, V]{}, (*p)[:i]...), (*p)[i+1:]...)
	}
	return there
}

func (p plain[K, V]) get(k K) (v V, there bool) {
	i, there := p.at(k)
	if there {
		v = p[i].value
	}
	return v, there
}

func (p plain[K, V]) from(k K) plain[K, V] {
	i, _ := p.at(k)
	return p[i:]
}

// gone: all that a loop tells.
func gone[K cmp.Ordered, V any](loop iter.Seq2[K, V]) plain[K, V] {
	var l plain[K, V]
	for k, v := range loop {
		l = append(l, told[K, V]{k, v})
	}
	return l
}

// alike: whether two lists tell the same keys with the same values.
func alike[K cmp.Ordered, V comparable](a, b plain[K, V]) bool {
	if len(a) != len(b) {
		return false
	}
	for i := range a {
		if !same(a[i].key, b[i].key) || a[i].value != b[i].value {
			return false
		}
	}
	return true
}

// wantLoop: that a loop tells just that.
func wantLoop[K cmp.Ordered, V comparable](t *testing.T, loop iter.Seq2[K, V], want plain[K, V]) {
	t.Helper()
	if l := gone(loop); !alike(l, want) {
		t.Fatalf("19.2: a loop tells %v, want %v", l, want)
	}
}

// wantTable: that the table tells what the list does, asked for those keys and for all that it has.
func wantTable[K cmp.Ordered, V comparable](t *testing.T, x *Table[K, V], want plain[K, V], keys ...K) {
	t.Helper()
	if x.Len() != len(want) {
		t.Fatalf("19.1: Len: %d, want %d", x.Len(), len(want))
	}
	first := append(want, told[K, V]{})[0]
	if k, v, ok := x.Least(); !same(k, first.key) || v != first.value || ok != (len(want) > 0) {
		t.Fatalf("19.1: Least: %v, %v, %t, want %v", k, v, ok, first)
	}
	wantLoop(t, x.All(), want)
	for _, p := range want {
		keys = append(keys, p.key)
	}
	for _, k := range keys {
		v, ok := want.get(k)
		if got, there := x.Get(k); got != v || there != ok {
			t.Fatalf("19.1: Get(%v): %v, %t, want %v, %t", k, got, there, v, ok)
		}
		wantLoop(t, x.From(k), want.from(k))
	}
	wantLevel(t, x)
}

// wantLevel: that no way down in the table's tree is much longer than another, so that a call ends soon however many keys there are.
func wantLevel[K cmp.Ordered, V any](t *testing.T, x *Table[K, V]) {
	t.Helper()
	count := 0
	var height func(k *knot[K, V]) int
	height = func(k *knot[K, V]) int {
		if k == nil {
			return 0
		}
		count++
		left, right := height(k.left), height(k.right)
		if left > right+1 || right > left+1 || k.height != 1+max(left, right) {
			t.Fatalf("19.6: the knot of %v says %d, above %d and %d", k.key, k.height, left, right)
		}
		return k.height
	}
	height(x.top)
	if count != x.Len() {
		t.Fatalf("19.1: Len is %d, and there are %d knots", x.Len(), count)
	}
}

// both: a table, and the list that tells what it must.
type both[K cmp.Ordered, V comparable] struct {
	table *Table[K, V]
	plain plain[K, V]
}

func newBoth[K cmp.Ordered, V comparable]() *both[K, V] {
	return &both[K, V]{table: NewTable[K, V]()}
}

func (x *both[K, V]) put(t *testing.T, k K, v V) {
	t.Helper()
	want := x.plain.put(k, v)
	if there := x.table.Put(k, v); there != want {
		t.Fatalf("19.1: Put(%v): %t, want %t", k, there, want)
	}
}

func (x *both[K, V]) delete(t *testing.T, k K) {
	t.Helper()
	want := x.plain.delete(k)
	if there := x.table.Delete(k); there != want {
		t.Fatalf("19.1: Delete(%v): %t, want %t", k, there, want)
	}
}

func (x *both[K, V]) look(t *testing.T, keys ...K) {
	t.Helper()
	wantTable(t, x.table, x.plain, keys...)
}

// pinned: what a pin may be pinned with, by chance.
func pinned(r *rand.Rand, gens int) Pin {
	p := Pin{Gen: r.Intn(gens)}
	for _, k := range []*api.Key{&p.Key, &p.Root.Hash, &p.Memo.Hash} {
		r.Read(k[:])
	}
	p.Root.First, p.Root.Len, p.Memo.First, p.Memo.Len = r.Int(), r.Int(), -r.Int(), -r.Int()
	return p
}

// pin: pins it: what is told of the number.
func pin(x *Pins, p Pin) (int, api.Errno) {
	return x.Pin(p.Gen, p.Key, p.Root, p.Memo)
}

// hold: pins something by chance, and keeps what the pin must tell under the number that it must have.
func hold(r *rand.Rand, x *Pins, want map[int]Pin, n int) {
	p := pinned(r, 3)
	pin(x, p)
	p.Number = n
	want[n] = p
}
