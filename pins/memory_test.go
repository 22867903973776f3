package pins

import (
	"iter"
	"math"
	"math/rand"
	"slices"
	"sync"
	"testing"

	"kiln/api"
)

// 19.6: the list of All is memory of its own, spare room too.
func TestAllHandedOut(t *testing.T) {
	r := rand.New(rand.NewSource(196))
	x := New()
	want := map[int]Pin{}
	for n := 1; n <= 20; n++ {
		hold(r, x, want, n)
		l, again := x.All(), x.All()
		_ = append(l, Pin{Number: -1})
		clear(l[:cap(l)])
		if !slices.Equal(again, x.All()) {
			t.Fatal("19.6: two answers of All share memory")
		}
		_ = append(again[:0], Pin{Number: -2}, Pin{Number: -3})
		wantPins(t, x, want, n)
	}
}

// 19.6: a list of All stays as it was told.
func TestAllStays(t *testing.T) {
	x := New()
	for range 8 {
		x.Pin(3, api.Key{3}, api.Ref{}, api.Ref{})
	}
	l := x.All()
	want := slices.Clone(l)
	for n := 1; n <= 8; n += 2 {
		x.Unpin(n)
	}
	x.Pin(4, api.Key{}, api.Ref{}, api.Ref{})
	if !slices.Equal(l, want) {
		t.Errorf("19.6: %v, was %v", l, want)
	}
}

// 19.6: two tables, and two lists of pins, have nothing in common.
func TestTwo(t *testing.T) {
	a, b := newBoth[int, int](), newBoth[int, int]()
	for i := range 50 {
		a.put(t, i, i)
		b.put(t, 2*i, -i)
		a.look(t)
		b.look(t)
	}
	for i := range 50 {
		a.delete(t, 2*i)
		b.delete(t, 3*i)
		a.look(t)
		b.look(t)
	}
	x, y := New(), New()
	wantPin(t, x, 1, 1)
	wantPin(t, x, 1, 2)
	wantPin(t, y, 2, 1)
	wantUnpin(t, y, 2, api.ErrPin)
	wantUnpin(t, x, 1, api.OK)
	wantUnpin(t, y, 1, api.OK)
	if x.Len() != 1 || y.Len() != 0 || x.Of(1) != 1 || y.Of(1) != 0 {
		t.Errorf("19.6: %d and %d are held", x.Len(), y.Len())
	}
	wantPin(t, y, 2, 2)
	wantPin(t, x, 1, 3)
}

// 19.6: values are kept and told as they are: a list in a value is the caller's own, with its room.
func TestValuesAsTheyAre(t *testing.T) {
	x := NewTable[string, []int]()
	list := make([]int, 2, 9)
	x.Put("a", list)
	x.Put("nil", nil)
	x.Put("empty", []int{})
	list[1] = 7
	got, ok := x.Get("a")
	if !ok || len(got) != 2 || cap(got) != 9 || got[1] != 7 {
		t.Errorf("19.6: Get: %v, %d, %t", got, cap(got), ok)
	}
	_, least, _ := x.Least()
	least[0] = 5
	if list[0] != 5 {
		t.Error("19.6: Least tells another list")
	}
	for k, v := range x.All() {
		if k == "a" {
			v[0] = 6
		}
		if (v == nil) != (k == "nil") {
			t.Errorf("19.6: the value of %q is nil: %t", k, v == nil)
		}
	}
	if list[0] != 6 {
		t.Error("19.6: All tells another list")
	}
	p := new(int)
	y := NewTable[int, *int]()
	y.Put(1, p)
	if q, _ := y.Get(1); q != p {
		t.Error("19.6: Get tells another pointer")
	}
}

// 19.6: values of any type: also such as can't be compared, are of no size, or are great.
func TestAnyValue(t *testing.T) {
	f := NewTable[int, func() int]()
	for i := range 9 {
		f.Put(i, func() int { return i * i })
	}
	for k, v := range f.From(4) {
		if v() != k*k {
			t.Errorf("19.6: %d at %d", v(), k)
		}
	}
	none := newBoth[int, struct{}]()
	for i := range 9 {
		none.put(t, i*4%9, struct{}{})
		none.look(t, -1, 9)
	}
	mixed := NewTable[int, any]()
	mixed.Put(1, "text")
	mixed.Put(2, []int{1})
	mixed.Put(3, nil)
	mixed.Put(4, math.NaN())
	if v, ok := mixed.Get(1); v != "text" || !ok {
		t.Errorf("19.6: %v, %t", v, ok)
	}
	if v, ok := mixed.Get(3); v != nil || !ok {
		t.Errorf("19.6: %v, %t", v, ok)
	}
	great := newBoth[int, [4096]int]()
	for i := range 60 {
		great.put(t, i*7%60, [4096]int{0: i, 4095: -i})
	}
	great.look(t)
	inner := NewTable[int, *Table[int, int]]()
	for i := range 5 {
		inner.Put(i, NewTable[int, int]())
		for j := range i {
			last, _ := inner.Get(i)
			last.Put(j, i)
		}
	}
	for k, v := range inner.All() {
		if v.Len() != k {
			t.Errorf("19.6: the table at %d has %d", k, v.Len())
		}
	}
}

// 19.6: no memory is kept from call to call but the table's own: tables and pins by themselves, side by side.
func TestSideBySide(t *testing.T) {
	var all sync.WaitGroup
	for i := range 8 {
		all.Go(func() {
			newHistory(int64(i), func(r *rand.Rand) int { return r.Intn(300) }).live(t)
			x := New()
			for n := 1; n <= 500; n++ {
				if got, err := x.Pin(i, api.Key{}, api.Ref{}, api.Ref{}); got != n || err != api.OK {
					t.Errorf("19.6: Pin: %d, %d, want %d", got, err, n)
				}
				if n > 20 {
					x.Unpin(n - 20)
				}
			}
			if x.Of(i) != 20 {
				t.Errorf("19.6: Of: %d", x.Of(i))
			}
		})
	}
	all.Wait()
}

// 19.6: what only asks may be asked from many sides at once.
func TestAskedSideBySide(t *testing.T) {
	x := tens(t, 500)
	p := New()
	for range 40 {
		p.Pin(1, api.Key{}, api.Ref{}, api.Ref{})
	}
	var all sync.WaitGroup
	for range 8 {
		all.Go(func() {
			for i := range 50 {
				if v, ok := x.table.Get(10 * i); v != 10*i+1 || !ok {
					t.Errorf("19.6: Get(%d): %d, %t", 10*i, v, ok)
				}
				if l := gone(x.table.From(10 * i)); !alike(l, x.plain[i:]) {
					t.Errorf("19.6: From(%d): %d keys", 10*i, len(l))
				}
				if len(p.All()) != 40 || p.Of(1) != 40 {
					t.Errorf("19.6: %d pins", len(p.All()))
				}
			}
		})
	}
	all.Wait()
}

// 19.6: a loop that was left, or asked for and never begun, holds up nothing.
func TestLoopsLeftOpen(t *testing.T) {
	x := newBoth[int, int]()
	for i := range 200 {
		x.put(t, i*29%200, i)
		next, stop := iter.Pull2(x.table.All())
		next()
		defer stop()
		x.table.From(i)
	}
	x.look(t)
}

// 19.6: every call ends, and none panics, with whatever numbers.
func TestEnds(t *testing.T) {
	r := rand.New(rand.NewSource(1961))
	far := []int{math.MinInt, math.MinInt + 1, -1 << 32, -1, 0, 1, 2, 63, 64, 65, 1 << 31, 1 << 40, math.MaxInt - 1, math.MaxInt}
	pick := func() int { return far[r.Intn(len(far))] }
	x, p := newBoth[int, int](), New()
	for range 5000 {
		x.put(t, pick(), pick())
		x.delete(t, pick())
		x.look(t, pick())
		p.Pin(pick(), api.Key{}, api.Ref{First: pick()}, api.Ref{Len: pick()})
		p.Unpin(pick())
		p.Get(pick())
		p.Of(pick())
		if p.Len() != len(p.All()) || p.Len() > api.MaxPins {
			t.Fatalf("19.3: %d are held", p.Len())
		}
	}
}
