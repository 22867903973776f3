package pins

import (
	"cmp"
	"iter"
)

// Table holds values by keys, and tells them by rising key.
type Table[K cmp.Ordered, V any] struct {
	top   *knot[K, V]
	count int
}

// NewTable is an empty table.
func NewTable[K cmp.Ordered, V any]() *Table[K, V] {
	return &Table[K, V]{}
}

// Put lets a key have a value: whether the key was there.
func (t *Table[K, V]) Put(k K, v V) bool {
	there := t.top.find(k) != nil
	t.top = t.top.with(&pair[K, V]{key: k, value: v})
	if !there {
		t.count++
	}
	return there
}

// Get tells a key's value.
func (t *Table[K, V]) Get(k K) (V, bool) {
	p := t.top.find(k)
	if p == nil {
		return *new(V), false
	}
	return p.value, true
}

// Delete takes a key away: whether it was there.
func (t *Table[K, V]) Delete(k K) bool {
	if t.top.find(k) == nil {
		return false
	}
	t.top = t.top.without(k)
	t.count--
	return true
}

// Len tells how many keys there are.
func (t *Table[K, V]) Len() int {
	return t.count
}

// Least tells the least key and its value.
func (t *Table[K, V]) Least() (K, V, bool) {
	p := t.top.least()
	if p == nil {
		return *new(K), *new(V), false
	}
	return p.key, p.value, true
}

// All goes over all keys, rising, as they are when the loop begins.
func (t *Table[K, V]) All() iter.Seq2[K, V] {
	return func(yield func(K, V) bool) {
		t.top.each(yield)
	}
}

// From goes over the keys that are not ahead of k, likewise.
func (t *Table[K, V]) From(k K) iter.Seq2[K, V] {
	return func(yield func(K, V) bool) {
		t.top.from(k, yield)
	}
}
