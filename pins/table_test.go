package pins

import (
	"cmp"
	"math"
	"slices"
	"strings"
	"testing"
)

// TestExamples: the table of the chapter, its first three rows.
func TestExamples(t *testing.T) {
	x := newBoth[int, string]()
	if x.table.Put(5, "a") || x.table.Put(2, "b") || !x.table.Put(5, "c") {
		t.Error("19.1: Put")
	}
	wantLoop(t, x.table.All(), plain[int, string]{{2, "b"}, {5, "c"}})
	wantLoop(t, x.table.From(3), plain[int, string]{{5, "c"}})
	if k, v, ok := x.table.Least(); k != 2 || v != "b" || !ok {
		t.Errorf("19.1: Least: %d, %q, %t", k, v, ok)
	}
	if !x.table.Delete(2) || x.table.Delete(2) || x.table.Len() != 1 {
		t.Error("19.1: Delete")
	}
}

// 19.1: nothing in it, new or emptied again.
func TestEmpty(t *testing.T) {
	x := newBoth[int, string]()
	x.look(t, 0, 1, -1, math.MaxInt, math.MinInt)
	if k, v, ok := x.table.Least(); k != 0 || v != "" || ok {
		t.Errorf("19.1: Least of none: %d, %q, %t", k, v, ok)
	}
	for _, k := range []int{0, 1, math.MinInt} {
		x.delete(t, k)
		x.put(t, k, "v")
		x.delete(t, k)
		x.delete(t, k)
		x.look(t, 0, k)
	}
	s := newBoth[string, [3]int]()
	s.delete(t, "")
	s.look(t, "", "a")
}

// 19.1: a key has the value that was put last, whatever was put ahead of it; another key's stays.
func TestPutAgain(t *testing.T) {
	x := newBoth[int, int]()
	for i := range 40 {
		x.put(t, i%7, i)
		x.look(t, -1, 7)
	}
	for i := range 40 {
		x.put(t, 3, -i)
		x.look(t)
	}
}

// 19.1: a value that is the zero one is there all the same, and so is a key that is.
func TestZeroThere(t *testing.T) {
	x := NewTable[int, *int]()
	if x.Put(0, nil) || !x.Put(0, nil) || x.Len() != 1 {
		t.Error("19.1: Put(0, nil)")
	}
	if v, ok := x.Get(0); v != nil || !ok {
		t.Errorf("19.1: Get(0): %v, %t", v, ok)
	}
	if k, v, ok := x.Least(); k != 0 || v != nil || !ok {
		t.Errorf("19.1: Least: %v, %v, %t", k, v, ok)
	}
	if !x.Delete(0) || x.Len() != 0 {
		t.Error("19.1: Delete(0)")
	}
	if v, ok := x.Get(0); v != nil || ok {
		t.Errorf("19.1: Get(0) of none: %v, %t", v, ok)
	}
}

// 19.1: what is refused or asked changes nothing.
func TestAskedAlone(t *testing.T) {
	x := newBoth[int, int]()
	for i := range 20 {
		x.put(t, 2*i, i)
	}
	for i := -1; i < 41; i += 2 {
		x.delete(t, i)
		x.table.Get(i)
		x.table.From(i)
		x.table.All()
		x.look(t, i)
	}
}

// 19.1: Least follows as the least key goes and another comes.
func TestLeast(t *testing.T) {
	x := newBoth[int, string]()
	for i := 30; i > 0; i-- {
		x.put(t, i, strings.Repeat("v", i))
		if k, v, ok := x.table.Least(); k != i || len(v) != i || !ok {
			t.Errorf("19.1: Least: %d, %q, %t, want %d", k, v, ok, i)
		}
	}
	for i := 1; i <= 30; i++ {
		if k, v, ok := x.table.Least(); k != i || len(v) != i || !ok {
			t.Errorf("19.1: Least: %d, %q, %t, want %d", k, v, ok, i)
		}
		x.delete(t, i)
		x.look(t)
	}
}

// wantKind: that a table over keys of that type goes by them, put and deleted in the order given and the other way round.
func wantKind[K cmp.Ordered](t *testing.T, keys ...K) {
	t.Helper()
	for range 2 {
		x := newBoth[K, int]()
		for i, k := range keys {
			x.put(t, k, i)
			x.look(t, keys...)
		}
		for i, k := range keys {
			x.put(t, k, -i)
			x.look(t, keys...)
		}
		for _, k := range keys {
			x.delete(t, k)
			x.look(t, keys...)
			x.delete(t, k)
		}
		slices.Reverse(keys)
	}
}

type (
	word  string
	small int8
	share float32
)

// 19.1, 19.4: keys of every ordered type, with the edges of each.
func TestKinds(t *testing.T) {
	wantKind(t, 5, -5, 0, math.MaxInt, math.MinInt, 1, -1, math.MaxInt-1, math.MinInt+1)
	wantKind[int8](t, 127, -128, 0, -1, 1, 126)
	wantKind[int16](t, math.MaxInt16, math.MinInt16, 0, -1, 1, 256)
	wantKind[int32](t, math.MaxInt32, math.MinInt32, 0, -1, 1, 65536)
	wantKind[int64](t, math.MaxInt64, math.MinInt64, 0, -1, 1, 1<<32)
	wantKind[uint](t, math.MaxUint, 0, 1, 1<<63, 1<<63-1)
	wantKind[uint8](t, 255, 0, 128, 127, 1)
	wantKind[uint16](t, 65535, 0, 256, 255)
	wantKind[uint32](t, math.MaxUint32, 0, 1<<31, 1<<31-1)
	wantKind[uint64](t, math.MaxUint64, 0, 1<<63, 1<<63-1, 1<<53, 1<<53+1)
	wantKind[uintptr](t, math.MaxUint, 0, 1<<63, 1)
	wantKind[float32](t, 1, -1, float32(math.NaN()), float32(math.Inf(1)), float32(math.Inf(-1)), 0, math.MaxFloat32, -math.MaxFloat32, math.SmallestNonzeroFloat32)
	wantKind(t, 1, -1, math.NaN(), math.Inf(1), math.Inf(-1), 0, math.MaxFloat64, -math.MaxFloat64, math.SmallestNonzeroFloat64, -math.SmallestNonzeroFloat64)
	wantKind(t, "b", "a", "", "ab", "aa", "B", "\x00", "\xff", "a\x00", "\u00e4", "zzzzzzzz")
	wantKind[word](t, "b", "a", "", "ab", "\xff\xfe", "\xff")
	wantKind[small](t, 127, -128, 0, -1)
	wantKind[share](t, share(math.NaN()), 0.5, -0.5, share(math.Inf(-1)))
}

// 19.1: texts go by their bytes, whatever they would be as runes.
func TestTexts(t *testing.T) {
	x := newBoth[string, int]()
	want := []string{"", "\x00", "\x00\x00", "A", "Z", "a", "a\x00", "a ", "aa", "ab", "b", "\x7f", "\x80", "\u0080", "\u00ff", "\uffff", "\U00010000", "\xff", "\xff\x00"}
	for i := range want {
		x.put(t, want[i*7%len(want)], i)
	}
	var keys []string
	for k := range x.table.All() {
		keys = append(keys, k)
	}
	if !slices.Equal(keys, want) {
		t.Errorf("19.2: %q, want %q", keys, want)
	}
	x.look(t, "\x01", "aab", "\xfe", "\xff\xff", strings.Repeat("a", 70000))
}

// 19.1: what is no number is one key, of whatever bits, ahead of all others.
func TestNoNumber(t *testing.T) {
	x := newBoth[float64, int]()
	odd := []float64{math.NaN(), -math.NaN(), math.Float64frombits(0x7ff0000000000001), math.Float64frombits(0xfff8000000000123)}
	for i, k := range []float64{math.Inf(-1), 3, math.Inf(1), -math.MaxFloat64} {
		x.put(t, k, i)
	}
	for i, k := range odd {
		if x.table.Put(k, 10+i) != (i > 0) {
			t.Errorf("19.1: Put of what is no number, the %dth", i)
		}
		x.plain.put(k, 10+i)
		x.look(t, odd...)
		if k, v, ok := x.table.Least(); k == k || v != 10+i || !ok {
			t.Errorf("19.1: Least: %v, %d, %t", k, v, ok)
		}
	}
	wantLoop(t, x.table.From(odd[1]), x.plain)
	wantLoop(t, x.table.From(math.Inf(-1)), x.plain[1:])
	x.delete(t, odd[2])
	x.delete(t, odd[0])
	x.look(t, odd...)
}

// 19.1: 0 and -0 are one key.
func TestTwoZeros(t *testing.T) {
	minus := math.Copysign(0, -1)
	for _, keys := range [][2]float64{{0, minus}, {minus, 0}} {
		x := newBoth[float64, int]()
		x.put(t, 1, 1)
		x.put(t, -1, 2)
		x.put(t, keys[0], 3)
		x.put(t, keys[1], 4)
		x.look(t, 0, minus)
		if k, v, ok := x.table.Least(); k != -1 || v != 2 || !ok || x.table.Len() != 3 {
			t.Errorf("19.1: Least: %v, %d, %t", k, v, ok)
		}
		x.delete(t, keys[0])
		x.delete(t, keys[1])
		x.look(t, 0, minus)
	}
}

// 19.2: From begins at the key itself, at the next where it is not there, and is nothing behind the last.
func TestFrom(t *testing.T) {
	x := newBoth[int, string]()
	for _, k := range []int{40, 10, 30, 20, math.MinInt, math.MaxInt} {
		x.put(t, k, "v")
	}
	for _, c := range []struct{ from, told, first int }{
		{math.MinInt, 6, math.MinInt}, {math.MinInt + 1, 5, 10}, {-1, 5, 10}, {9, 5, 10}, {10, 5, 10}, {11, 4, 20}, {20, 4, 20}, {29, 3, 30},
		{30, 3, 30}, {31, 2, 40}, {40, 2, 40}, {41, 1, math.MaxInt}, {math.MaxInt - 1, 1, math.MaxInt}, {math.MaxInt, 1, math.MaxInt},
	} {
		l := gone(x.table.From(c.from))
		if len(l) != c.told || l[0].key != c.first {
			t.Errorf("19.2: From(%d): %v", c.from, l)
		}
	}
	x.delete(t, math.MaxInt)
	if l := gone(x.table.From(41)); len(l) != 0 {
		t.Errorf("19.2: From behind the last: %v", l)
	}
}
