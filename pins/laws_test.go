package pins

import (
	"cmp"
	"maps"
	"math"
	"math/rand"
	"slices"
	"strconv"
	"testing"

	"kiln/api"
)

// 19.4: every history of six puts and deletes over three keys.
func TestAllHistories(t *testing.T) {
	const kinds, length = 6, 6
	count := 1
	for range length {
		count *= kinds
	}
	for n := range count {
		x := newBoth[int, int]()
		for i, rest := 0, n; i < length; i, rest = i+1, rest/kinds {
			k := rest % kinds / 2
			if rest%2 == 0 {
				x.put(t, k, i)
			} else {
				x.delete(t, k)
			}
		}
		x.look(t, -1, 0, 1, 2, 3)
	}
}

// orders: all orders of the numbers below n.
func orders(n int) [][]int {
	if n == 0 {
		return [][]int{nil}
	}
	var l [][]int
	for _, o := range orders(n - 1) {
		for i := range n {
			l = append(l, slices.Insert(slices.Clone(o), i, n-1))
		}
	}
	return l
}

// 19.4: five keys put in every order and deleted in every order, each looked at all along.
func TestAllOrders(t *testing.T) {
	all := orders(5)
	for _, in := range all {
		whole := newBoth[int, int]()
		for i, k := range in {
			whole.put(t, k, i)
			whole.look(t, -1, 5)
		}
		for _, out := range all {
			x := newBoth[int, int]()
			for i, k := range in {
				x.put(t, k, i)
			}
			for _, k := range out {
				x.delete(t, k)
				x.look(t, k)
			}
		}
	}
}

// 19.4: eight keys put in every order: the same is told however they came; and deleted from either end and from within.
func TestOrdersOfMore(t *testing.T) {
	want := NewTable[int, int]()
	for k := range 8 {
		want.Put(k, k*k)
	}
	for i, in := range orders(8) {
		x := newBoth[int, int]()
		for _, k := range in {
			x.put(t, k, k*k)
		}
		if !alike(gone(x.table.All()), gone(want.All())) {
			t.Fatalf("19.4: put as %v: %v", in, gone(x.table.All()))
		}
		wantLevel(t, x.table)
		for j := range 8 {
			x.delete(t, in[(j*(1+2*(i%4))+i)%8])
			wantLevel(t, x.table)
		}
		x.look(t, in...)
	}
}

// history: a table beside a map to which the same is done.
type history[K cmp.Ordered] struct {
	*rand.Rand
	table *Table[K, int]
	model map[K]int
	key   func() K
}

func newHistory[K cmp.Ordered](seed int64, key func(r *rand.Rand) K) *history[K] {
	r := rand.New(rand.NewSource(seed))
	return &history[K]{Rand: r, table: NewTable[K, int](), model: map[K]int{}, key: func() K { return key(r) }}
}

// act: a put or a delete, by chance.
func (h *history[K]) act(t *testing.T, puts int) {
	t.Helper()
	k := h.key()
	_, want := h.model[k]
	if h.Intn(10) < puts {
		v := h.Int()
		if there := h.table.Put(k, v); there != want {
			t.Fatalf("19.4: Put(%v): %t", k, there)
		}
		h.model[k] = v
		return
	}
	if there := h.table.Delete(k); there != want {
		t.Fatalf("19.4: Delete(%v): %t", k, there)
	}
	delete(h.model, k)
}

// look: that the table tells what the map does, by rising key.
func (h *history[K]) look(t *testing.T) {
	t.Helper()
	var want plain[K, int]
	for _, k := range slices.Sorted(maps.Keys(h.model)) {
		want = append(want, told[K, int]{k, h.model[k]})
	}
	k := h.key()
	i, _ := slices.BinarySearchFunc(want, k, func(a told[K, int], k K) int { return cmp.Compare(a.key, k) })
	if h.table.Len() != len(want) || !alike(gone(h.table.All()), want) || !alike(gone(h.table.From(k)), want[i:]) {
		t.Fatalf("19.4: %d keys, and other ones than the %d of the map", h.table.Len(), len(want))
	}
	v, ok := h.model[k]
	if got, there := h.table.Get(k); got != v || there != ok {
		t.Fatalf("19.4: Get(%v): %d, %t, want %d, %t", k, got, there, v, ok)
	}
	if least, v, ok := h.table.Least(); ok != (len(want) > 0) || ok && want[0] != (told[K, int]{least, v}) {
		t.Fatalf("19.4: Least: %v, %d, %t", least, v, ok)
	}
	wantLevel(t, h.table)
}

// live: a long history, with times of growing and of going.
func (h *history[K]) live(t *testing.T) {
	t.Helper()
	for i := range 3000 {
		h.act(t, []int{9, 5, 2, 5}[i/250%4])
		if i%20 == 0 {
			h.look(t)
		}
	}
	for len(h.model) > 0 {
		h.act(t, 0)
	}
	h.look(t)
}

// 19.4: whatever is put and deleted, in whatever order, by chance, over few keys and many.
func TestAsMap(t *testing.T) {
	for seed := range int64(12) {
		few := 1 << seed / 2
		newHistory(seed, func(r *rand.Rand) int { return r.Intn(1+few) - few/2 }).live(t)
		newHistory(seed, func(r *rand.Rand) uint8 { return uint8(r.Intn(256)) }).live(t)
		newHistory(seed, func(r *rand.Rand) string { return strconv.Itoa(r.Intn(1 + few)) }).live(t)
		newHistory(seed, func(r *rand.Rand) float64 { return math.Ldexp(float64(r.Intn(9)-4), r.Intn(40)-20) }).live(t)
	}
}

// 19.4, 19.6: very many keys, in orders that would make a list or a lopsided tree slow; each call still ends soon.
func TestMany(t *testing.T) {
	const n = 1 << 17
	spots := map[string]func(i int) int{
		"rising":  func(i int) int { return i },
		"falling": func(i int) int { return n - 1 - i },
		"outward": func(i int) int { return n/2 + (i+1)/2*(1-2*(i%2)) },
		"strewn":  func(i int) int { return i * 40503 % n },
	}
	for name, spot := range spots {
		x := NewTable[int, int]()
		least := n
		for i := range n {
			least = min(least, spot(i))
			if x.Put(spot(i), i) {
				t.Fatalf("19.4: %s: %d was there", name, spot(i))
			}
			if k, _, ok := x.Least(); k != least || !ok {
				t.Fatalf("19.4: %s: Least is %d, want %d", name, k, least)
			}
			for k := range x.All() { // left at once: it may not cost as much as all keys do
				if k != least {
					t.Fatalf("19.4: %s: All begins at %d, want %d", name, k, least)
				}
				break
			}
		}
		wantLevel(t, x)
		next := least
		for k, v := range x.All() {
			if k != next || spot(v) != k {
				t.Fatalf("19.4: %s: %d, %d, want %d", name, k, v, next)
			}
			next++
		}
		for i := range n {
			if i%8 != 0 && !x.Delete(spot(i)) {
				t.Fatalf("19.4: %s: %d was not there", name, spot(i))
			}
		}
		wantLevel(t, x)
		for i := range n {
			if v, ok := x.Get(spot(i)); ok != (i%8 == 0) || ok && v != i {
				t.Fatalf("19.4: %s: Get(%d): %d, %t", name, spot(i), v, ok)
			}
		}
		if x.Len() != n/8 {
			t.Errorf("19.4: %s: Len %d", name, x.Len())
		}
	}
}

// 19.5: a pin tells what it was told, whatever is pinned and let go of beside it, until it is let go of itself: by chance, with few pins and with as many as there may be.
func TestPinStays(t *testing.T) {
	refused := 0
	for seed := range int64(60) {
		r := rand.New(rand.NewSource(seed))
		x, last := New(), 0
		model := map[int]Pin{}
		for i := range 600 {
			if r.Intn(10) < []int{8, 5, 2}[i/100%3] {
				p := pinned(r, 5)
				n, err := pin(x, p)
				if len(model) == api.MaxPins {
					refused++
					if n != 0 || err != api.ErrPins {
						t.Fatalf("19.3: Pin of too many: %d, %d", n, err)
					}
					continue
				}
				last++
				if n != last || err != api.OK {
					t.Fatalf("19.3: Pin: %d, %d, want %d", n, err, last)
				}
				p.Number = n
				model[n] = p
			} else {
				n := r.Intn(last+3) - 1
				_, held := model[n]
				if err := x.Unpin(n); held != (err == api.OK) || !held && err != api.ErrPin {
					t.Fatalf("19.3: Unpin(%d): %d", n, err)
				}
				delete(model, n)
			}
			wantPins(t, x, model, last)
		}
	}
	if refused < 100 {
		t.Errorf("but %d pins were refused", refused)
	}
}

// wantPins: that those are held, and of all numbers up to last and beside them no other.
func wantPins(t *testing.T, x *Pins, want map[int]Pin, last int) {
	t.Helper()
	var list []Pin
	gens := map[int]int{}
	for n := -1; n <= last+1; n++ {
		p, held := want[n]
		got, err := x.Get(n)
		if got != p || held != (err == api.OK) || !held && err != api.ErrPin {
			t.Fatalf("19.5: Get(%d): %v, %d, want %v", n, got, err, p)
		}
		if held {
			list = append(list, p)
			gens[p.Gen]++
		}
	}
	if x.Len() != len(list) || !slices.Equal(x.All(), list) {
		t.Fatalf("19.3: %d are held: %v, want %v", x.Len(), x.All(), list)
	}
	for gen := -1; gen < 6; gen++ {
		if x.Of(gen) != gens[gen] {
			t.Fatalf("19.3: Of(%d): %d, want %d", gen, x.Of(gen), gens[gen])
		}
	}
}
