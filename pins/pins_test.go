package pins

import (
	"math"
	"math/rand"
	"testing"

	"kiln/api"
)

// wantPin: that a pin of that generation is told that number.
func wantPin(t *testing.T, x *Pins, gen, want int) {
	t.Helper()
	if n, err := x.Pin(gen, api.Key{}, api.Ref{}, api.Ref{}); n != want || err != api.OK {
		t.Errorf("19.3: Pin(%d): %d, %d, want %d", gen, n, err, want)
	}
}

func wantUnpin(t *testing.T, x *Pins, n int, want api.Errno) {
	t.Helper()
	if err := x.Unpin(n); err != want {
		t.Errorf("19.3: Unpin(%d): %d, want %d", n, err, want)
	}
}

// TestExamplesOfPins: the table of the chapter, its last two rows.
func TestExamplesOfPins(t *testing.T) {
	x := New()
	wantPin(t, x, 7, 1)
	wantPin(t, x, 7, 2)
	wantUnpin(t, x, 1, api.OK)
	wantPin(t, x, 8, 3)
	if p, err := x.Get(1); p != (Pin{}) || err != api.ErrPin {
		t.Errorf("19.3: Get(1): %v, %d", p, err)
	}
	wantUnpin(t, x, 1, api.ErrPin)
	if x.Of(7) != 1 || x.Len() != 2 {
		t.Errorf("19.3: Of(7) %d, Len %d", x.Of(7), x.Len())
	}
}

// 19.3: no pins.
func TestNoPins(t *testing.T) {
	x := New()
	wantPins(t, x, nil, 3)
	for _, n := range []int{0, 1, -1, api.MaxPins, math.MaxInt, math.MinInt} {
		wantUnpin(t, x, n, api.ErrPin)
		if p, err := x.Get(n); p != (Pin{}) || err != api.ErrPin {
			t.Errorf("19.3: Get(%d): %v, %d", n, p, err)
		}
		if x.Of(n) != 0 {
			t.Errorf("19.3: Of(%d): %d", n, x.Of(n))
		}
	}
	wantPin(t, x, 0, 1) // what was refused has told no number
}

// 19.3: each thing that a pin is pinned with stands where it belongs.
func TestPinHasAll(t *testing.T) {
	x := New()
	root, memo := api.Ref{Hash: api.Key{2}, First: 3, Len: 4}, api.Ref{Hash: api.Key{5}, First: 6, Len: 7}
	x.Pin(9, api.Key{1}, root, memo)
	want := Pin{Number: 1, Gen: 9, Key: api.Key{1}, Root: root, Memo: memo}
	if p, err := x.Get(1); p != want || err != api.OK {
		t.Errorf("19.3: Get(1): %v, %d, want %v", p, err, want)
	}
	if l := x.All(); len(l) != 1 || l[0] != want {
		t.Errorf("19.3: All: %v, want %v", l, want)
	}
}

// 19.3: whatever it is pinned with is told again: nothing of it is looked at.
func TestPinWithAnything(t *testing.T) {
	x := New()
	far := []int{math.MinInt, -1, 0, 1, api.MaxCount, api.MaxCount + 1, math.MaxInt}
	for i, n := range far {
		ref := api.Ref{First: n, Len: -n}
		if number, err := x.Pin(n, api.Key{}, ref, ref); number != i+1 || err != api.OK {
			t.Errorf("19.3: Pin(%d): %d, %d", n, number, err)
		}
		if p, err := x.Get(i + 1); p != (Pin{Number: i + 1, Gen: n, Root: ref, Memo: ref}) || err != api.OK {
			t.Errorf("19.3: Get(%d): %v, %d", i+1, p, err)
		}
		if x.Of(n) != 1 {
			t.Errorf("19.3: Of(%d): %d", n, x.Of(n))
		}
	}
}

// 19.3: MaxPins are held, and no more; one that is let go of makes room for one; the number of what was refused is not lost.
func TestFull(t *testing.T) {
	x := New()
	for i := range api.MaxPins {
		wantPin(t, x, i%3, i+1)
	}
	for range 3 {
		if n, err := x.Pin(1, api.Key{1}, api.Ref{First: 1}, api.Ref{}); n != 0 || err != api.ErrPins {
			t.Errorf("19.3: Pin of too many: %d, %d", n, err)
		}
	}
	if x.Len() != 64 || x.Of(0) != 22 || x.Of(1) != 21 || x.Of(2) != 21 || len(x.All()) != 64 {
		t.Errorf("19.3: Len %d, Of(0) %d, Of(1) %d, Of(2) %d", x.Len(), x.Of(0), x.Of(1), x.Of(2))
	}
	wantUnpin(t, x, 30, api.OK)
	wantPin(t, x, 5, 65)
	if n, err := x.Pin(5, api.Key{}, api.Ref{}, api.Ref{}); n != 0 || err != api.ErrPins {
		t.Errorf("19.3: Pin of too many again: %d, %d", n, err)
	}
	wantUnpin(t, x, 65, api.OK)
	wantPin(t, x, 5, 66)
}

// 19.3: no number is told twice, also where the newest pin, or all, are let go of.
func TestNumbers(t *testing.T) {
	x := New()
	for i := range 300 {
		wantPin(t, x, 4, i+1)
		wantUnpin(t, x, i+1, api.OK)
		wantUnpin(t, x, i+1, api.ErrPin)
		if p, err := x.Get(i + 1); p != (Pin{}) || err != api.ErrPin {
			t.Errorf("19.3: Get(%d): %v, %d", i+1, p, err)
		}
	}
	if x.Len() != 0 || len(x.All()) != 0 || x.Of(4) != 0 {
		t.Errorf("19.3: %d are held", x.Len())
	}
}

// 19.3: All goes by number, also where the generations fall and numbers have more digits.
func TestAllByNumber(t *testing.T) {
	x := New()
	for i := range 150 {
		wantPin(t, x, 1000-i, i+1)
		if i >= 40 {
			wantUnpin(t, x, i-39, api.OK)
		}
	}
	l := x.All()
	if len(l) != 40 {
		t.Fatalf("19.3: %d are held", len(l))
	}
	for i, p := range l {
		if p.Number != 111+i || p.Gen != 890-i {
			t.Errorf("19.3: the %dth of All: %v", i, p)
		}
	}
}

// 19.5: let go of in every order, those that are left tell what they were told.
func TestUnpinOrders(t *testing.T) {
	r := rand.New(rand.NewSource(195))
	for _, order := range orders(5) {
		x := New()
		want := map[int]Pin{}
		for n := 1; n <= 5; n++ {
			hold(r, x, want, n)
		}
		for _, i := range order {
			wantPins(t, x, want, 5)
			wantUnpin(t, x, i+1, api.OK)
			delete(want, i+1)
		}
		wantPins(t, x, want, 5)
		wantPin(t, x, 1, 6)
	}
}
