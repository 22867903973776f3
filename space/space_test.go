package space

import (
	"fmt"
	"math"
	"math/rand"
	"slices"
	"testing"

	"kiln/api"
)

// stretches: spaces of less than a word, of words just so, and of one more or less, that begin and end all over a word.
var stretches = [][2]int{
	{0, 1}, {0, 63}, {0, 64}, {0, 65}, {0, 128}, {0, 129},
	{1, 2}, {1, 64}, {1, 65}, {1, 66}, {3, 7}, {10, 200},
	{62, 66}, {63, 64}, {63, 65}, {63, 127}, {63, 128}, {63, 129}, {64, 65}, {64, 128}, {65, 129},
	{100, 1000}, {65400, 65536}, {65472, 65536}, {65535, 65536},
}

func made(t *testing.T, from, to int) *Space {
	t.Helper()
	s, err := New(from, to)
	if err != api.OK || s == nil {
		t.Fatalf("New(%d, %d): %v, %d", from, to, s, err)
	}
	return s
}

// numbers: from, .., to - 1.
func numbers(from, to int) []int {
	var l []int
	for n := from; n < to; n++ {
		l = append(l, n)
	}
	return l
}

// strangers: numbers that are none of the space, but for a slip near its ends, of a word, of a width or of a sign.
func strangers(from, to int) []int {
	l := []int{math.MinInt, math.MinInt + 1, -1 << 32, -65536, -64, -1, 65536, 65537, 1 << 32, 1 << 62, math.MaxInt - 1, math.MaxInt}
	for k := 1; k <= 130; k++ {
		l = append(l, from-k, to-1+k)
	}
	for _, n := range []int{from, to - 1} {
		l = append(l, n+1<<16, n-1<<16, n+1<<32, n-1<<32, n^math.MinInt, -n-1, ^n)
	}
	return slices.DeleteFunc(l, func(n int) bool { return n >= from && n < to })
}

// wantFree: Has, Free and List tell these numbers, and From and To that stretch.
func wantFree(t *testing.T, s *Space, from, to int, want []int) {
	t.Helper()
	if s.From() != from || s.To() != to {
		t.Fatalf("a space from %d to %d, want %d to %d", s.From(), s.To(), from, to)
	}
	if s.Free() != len(want) {
		t.Fatalf("Free() = %d, want %d", s.Free(), len(want))
	}
	if l := s.List(); !slices.Equal(l, want) {
		t.Fatalf("List() = %v, want %v", l, want)
	}
	k := 0
	for n := from - 70; n < to+70; n++ {
		is := k < len(want) && want[k] == n
		if is {
			k++
		}
		if s.Has(n) != is {
			t.Fatalf("Has(%d) = %t", n, !is)
		}
	}
}

func wantTake(t *testing.T, s *Space, want int) {
	t.Helper()
	if n, ok := s.Take(); n != want || !ok {
		t.Fatalf("Take() = %d, %t, want %d, true", n, ok, want)
	}
}

func wantNone(t *testing.T, s *Space) {
	t.Helper()
	if n, ok := s.Take(); n != 0 || ok {
		t.Fatalf("Take() = %d, %t, want 0, false", n, ok)
	}
}

func wantTakeAll(t *testing.T, s *Space, want ...int) {
	t.Helper()
	if l, ok := s.TakeAll(len(want)); !ok || !slices.Equal(l, want) {
		t.Fatalf("TakeAll(%d) = %v, %t, want %v, true", len(want), l, ok, want)
	}
}

func wantRefused(t *testing.T, s *Space, k int) {
	t.Helper()
	if l, ok := s.TakeAll(k); ok || len(l) != 0 {
		t.Fatalf("TakeAll(%d) = %v, %t, want none, false", k, l, ok)
	}
}

func wantClaim(t *testing.T, s *Space, n int, want bool) {
	t.Helper()
	if s.Claim(n) != want {
		t.Fatalf("Claim(%d) = %t", n, !want)
	}
}

func wantGive(t *testing.T, s *Space, n int, want bool) {
	t.Helper()
	if s.Give(n) != want {
		t.Fatalf("Give(%d) = %t", n, !want)
	}
}

func TestExamples(t *testing.T) {
	s := made(t, 3, 7)
	wantFree(t, s, 3, 7, []int{3, 4, 5, 6})
	wantTake(t, s, 3)
	wantTake(t, s, 4)
	wantGive(t, s, 3, true)
	wantGive(t, s, 3, false)
	wantGive(t, s, 9, false)
	wantTake(t, s, 3)
	wantRefused(t, s, 3)
	if s.Free() != 2 {
		t.Errorf("Free() = %d", s.Free())
	}
	wantTakeAll(t, s, 5, 6)
	wantNone(t, s)
	wantGive(t, s, 5, true)
	wantClaim(t, s, 5, true)
	wantClaim(t, s, 5, false)
	wantClaim(t, s, 2, false)
	for _, x := range [][2]int{{3, 3}, {-1, 4}, {0, 65537}} {
		if s, err := New(x[0], x[1]); s != nil || err != api.ErrRange {
			t.Errorf("New(%d, %d): %v, %d", x[0], x[1], s != nil, err)
		}
	}
}

func TestNew(t *testing.T) { // 4.1
	for _, x := range append(stretches, [2]int{0, 65535}, [2]int{1, 65536}, [2]int{0, 65536}) {
		s := made(t, x[0], x[1])
		wantFree(t, s, x[0], x[1], numbers(x[0], x[1]))
		for _, n := range strangers(x[0], x[1]) {
			if s.Has(n) {
				t.Errorf("New(%d, %d): %d is free", x[0], x[1], n)
			}
		}
	}
}

func TestNewRefused(t *testing.T) { // 4.1
	for _, x := range [][2]int{
		{-1, 0}, {-1, 1}, {-1, 4}, {-64, 64}, {-65536, 0}, {math.MinInt, 4}, {math.MinInt, math.MaxInt}, {-1, 65537}, {-1 << 32, 7},
		{0, 0}, {1, 1}, {3, 3}, {64, 64}, {65535, 65535}, {65536, 65536}, {65537, 65537}, {math.MaxInt, math.MaxInt}, {math.MinInt, math.MinInt},
		{1, 0}, {4, 3}, {7, 3}, {65536, 65535}, {65536, 0}, {0, -1}, {3, math.MinInt}, {math.MaxInt, 0}, {math.MaxInt, math.MinInt},
		{0, 65537}, {65535, 65537}, {65536, 65537}, {3, 1 << 32}, {3, 1<<32 + 7}, {0, math.MaxInt}, {65536, math.MaxInt},
	} {
		if s, err := New(x[0], x[1]); s != nil || err != api.ErrRange {
			t.Errorf("New(%d, %d): %v, %d", x[0], x[1], s != nil, err)
		}
	}
}

func TestFromAndToStay(t *testing.T) { // 4.1
	s := made(t, 60, 70)
	for _, do := range []func(){
		func() { s.Take() }, func() { s.TakeAll(9) }, func() { s.Give(65) }, func() { s.Claim(65) },
		func() { s.Take() }, func() { s.TakeAll(1) }, func() { s.Give(60) }, func() { s.Give(69) }, func() { s.Copy().Take() },
	} {
		do()
		if s.From() != 60 || s.To() != 70 {
			t.Fatalf("From() = %d, To() = %d", s.From(), s.To())
		}
	}
}

func TestTakeToTheEnd(t *testing.T) { // 4.2, 4.6
	for _, x := range stretches {
		s := made(t, x[0], x[1])
		all := numbers(x[0], x[1])
		for k, n := range all {
			wantTake(t, s, n)
			wantFree(t, s, x[0], x[1], all[k+1:])
		}
		wantNone(t, s)
		wantNone(t, s)
		wantFree(t, s, x[0], x[1], nil)
		wantGive(t, s, x[1]-1, true)
		wantTake(t, s, x[1]-1)
		wantNone(t, s)
		wantGive(t, s, x[0], true)
		wantTake(t, s, x[0])
		wantNone(t, s)
	}
}

func TestTakeTheWholeGreatest(t *testing.T) { // 4.2, 4.6
	s := made(t, 0, 65536)
	for n := range 65536 {
		wantTake(t, s, n)
	}
	wantNone(t, s)
	for _, n := range []int{65535, 0, 64, 63, 32768} {
		wantGive(t, s, n, true)
	}
	wantTakeAll(t, s, 0, 63, 64, 32768, 65535)
	wantNone(t, s)
}

func TestTakeTellsLowest(t *testing.T) { // 4.2, 4.6: not the next one behind what was taken last
	s := made(t, 0, 300)
	wantTakeAll(t, s, numbers(0, 300)...)
	given := []int{299, 64, 200, 63, 127, 128, 0, 191, 192, 65}
	for _, n := range given {
		wantGive(t, s, n, true)
	}
	slices.Sort(given)
	for _, n := range given[:4] {
		wantTake(t, s, n)
	}
	wantGive(t, s, 1, true)
	wantTake(t, s, 1)
	wantTakeAll(t, s, given[4:]...)
	wantNone(t, s)
}

func TestTakeAllOfEachLength(t *testing.T) { // 4.2
	for _, x := range stretches {
		all := numbers(x[0], x[1])
		for k := range len(all) + 1 {
			s := made(t, x[0], x[1])
			wantTakeAll(t, s, all[:k]...)
			wantFree(t, s, x[0], x[1], all[k:])
		}
	}
	s := made(t, 0, 65536)
	wantTakeAll(t, s, numbers(0, 65536)...)
	wantFree(t, s, 0, 65536, nil)
}

func TestTakeAllOverGaps(t *testing.T) { // 4.2, 4.6
	r := rand.New(rand.NewSource(42))
	for _, x := range stretches {
		for range 10 {
			s := made(t, x[0], x[1])
			free := numbers(x[0], x[1])
			for _, n := range numbers(x[0], x[1]) {
				if r.Intn(3) == 0 {
					wantClaim(t, s, n, true)
					free = slices.DeleteFunc(free, func(m int) bool { return m == n })
				}
			}
			k := r.Intn(len(free) + 1)
			wantTakeAll(t, s, free[:k]...)
			wantFree(t, s, x[0], x[1], free[k:])
			wantRefused(t, s, len(free)-k+1)
			wantTakeAll(t, s, free[k:]...)
			wantNone(t, s)
		}
	}
}

func TestTakeAllRefused(t *testing.T) { // 4.2: then nothing changes
	for _, x := range stretches {
		s := made(t, x[0], x[1])
		free := numbers(x[0], x[1])
		for len(free) > 0 {
			for _, k := range []int{len(free) + 1, len(free) + 64, 65537, 1 << 32, 1<<32 + 1, math.MaxInt, -1, -2, -64, -1 << 32, math.MinInt, math.MinInt + 1} {
				wantRefused(t, s, k)
			}
			wantFree(t, s, x[0], x[1], free)
			half := len(free)/2 + 1
			wantTakeAll(t, s, free[:half]...)
			free = free[half:]
		}
		for _, k := range []int{1, 2, 64, math.MaxInt, -1, math.MinInt} {
			wantRefused(t, s, k)
		}
		wantFree(t, s, x[0], x[1], nil)
	}
}

func TestTakeAllOfNone(t *testing.T) { // 4.2: k 0 is true, also where none is free
	s := made(t, 63, 66)
	wantTakeAll(t, s)
	wantFree(t, s, 63, 66, []int{63, 64, 65})
	wantTakeAll(t, s, 63, 64, 65)
	wantTakeAll(t, s)
	wantFree(t, s, 63, 66, nil)
}

func TestClaimAndGiveEach(t *testing.T) { // 4.3: just that number, nothing beside it
	for _, x := range stretches {
		all := numbers(x[0], x[1])
		for k, n := range all {
			s := made(t, x[0], x[1])
			wantGive(t, s, n, false)
			wantClaim(t, s, n, true)
			others := slices.Delete(slices.Clone(all), k, k+1)
			wantFree(t, s, x[0], x[1], others)
			wantClaim(t, s, n, false)
			wantFree(t, s, x[0], x[1], others)
			wantGive(t, s, n, true)
			wantFree(t, s, x[0], x[1], all)
			wantGive(t, s, n, false)
			wantFree(t, s, x[0], x[1], all)
		}
	}
}

func TestGiveAloneInEmpty(t *testing.T) { // 4.3
	for _, x := range stretches {
		s := made(t, x[0], x[1])
		wantTakeAll(t, s, numbers(x[0], x[1])...)
		for _, n := range numbers(x[0], x[1]) {
			wantClaim(t, s, n, false)
			wantGive(t, s, n, true)
			wantFree(t, s, x[0], x[1], []int{n})
			wantGive(t, s, n, false)
			wantClaim(t, s, n, true)
			wantFree(t, s, x[0], x[1], nil)
		}
	}
}

func TestStrangers(t *testing.T) { // 4.3, 4.4, 4.8: none of the space's numbers, with all free, some and none
	for _, x := range stretches {
		s := made(t, x[0], x[1])
		free := numbers(x[0], x[1])
		for _, k := range []int{0, (len(free) + 1) / 2, len(free) / 2} {
			wantTakeAll(t, s, free[:k]...)
			free = free[k:]
			for _, n := range strangers(x[0], x[1]) {
				if s.Has(n) {
					t.Fatalf("a space from %d to %d: Has(%d)", x[0], x[1], n)
				}
				wantClaim(t, s, n, false)
				wantGive(t, s, n, false)
			}
			wantFree(t, s, x[0], x[1], free)
		}
		if len(free) != 0 {
			t.Fatal("the test left some free")
		}
		wantNone(t, s) // a stranger's Give would be told here
	}
}

func TestAskingChangesNothing(t *testing.T) { // 4.4
	s := made(t, 10, 200)
	for _, n := range []int{10, 63, 64, 127, 128, 199} {
		wantClaim(t, s, n, true)
	}
	want := slices.DeleteFunc(numbers(10, 200), func(n int) bool { return slices.Contains([]int{10, 63, 64, 127, 128, 199}, n) })
	for range 3 {
		wantFree(t, s, 10, 200, want)
	}
	wantTake(t, s, 11)
}

func TestCopy(t *testing.T) { // 4.5
	r := rand.New(rand.NewSource(45))
	for _, x := range stretches {
		for _, part := range []int{0, 1, 2} { // of two claimed: none, some, all
			s := made(t, x[0], x[1])
			for _, n := range numbers(x[0], x[1]) {
				if r.Intn(2) < part {
					s.Claim(n)
				}
			}
			was := s.List()
			c := s.Copy()
			wantFree(t, c, x[0], x[1], was)
			wantFree(t, s, x[0], x[1], was)
			upset(c)
			wantFree(t, s, x[0], x[1], was)
			c = s.Copy()
			upset(s)
			wantFree(t, c, x[0], x[1], was)
		}
	}
}

// upset makes free what is not, and the other way round, and takes one.
func upset(s *Space) {
	for n := s.From(); n < s.To(); n++ {
		if !s.Claim(n) {
			s.Give(n)
		}
	}
	s.Take()
}

func TestCopiesOfCopies(t *testing.T) { // 4.5, 4.7, 4.8
	all := []*Space{made(t, 60, 200)}
	for k := range 20 {
		c := all[k].Copy()
		wantTake(t, c, 60+k)
		all = append(all, c)
	}
	for k, s := range all {
		wantFree(t, s, 60, 200, numbers(60+k, 200))
	}
	for k, s := range all { // each alone, whatever was done to those it comes of and those that come of it
		wantGive(t, s, 60, k > 0)
		wantClaim(t, s, 100+k, true)
	}
	for k, s := range all {
		want := slices.DeleteFunc(numbers(60+max(k, 1), 200), func(n int) bool { return n == 100+k })
		wantFree(t, s, 60, 200, append([]int{60}, want...))
	}
}

func TestCopyCountsOn(t *testing.T) { // 4.7: of a copy Free is counted from what was free when it was made
	s := made(t, 0, 100)
	wantTakeAll(t, s, numbers(0, 70)...)
	c := s.Copy()
	wantGive(t, s, 3, true)
	wantTake(t, c, 70)
	wantClaim(t, c, 99, true)
	wantGive(t, c, 5, true)
	if c.Free() != 30-2+1 || s.Free() != 31 {
		t.Errorf("Free() of the copy %d, of the other %d", c.Free(), s.Free())
	}
	wantTake(t, c, 5)
	wantTake(t, s, 3)
}

func TestToldOnceTillGiven(t *testing.T) { // 4.6, 4.7: by what the calls told alone
	for seed := range 30 {
		r := rand.New(rand.NewSource(int64(seed)))
		x := stretches[r.Intn(len(stretches))]
		s := made(t, x[0], x[1])
		told := map[int]bool{}
		tell := func(n int) {
			if told[n] || n < x[0] || n >= x[1] {
				t.Fatalf("seed %d: %d is told, a second time or from outside", seed, n)
			}
			told[n] = true
		}
		for range 600 {
			n := x[0] + r.Intn(x[1]-x[0]+2) - 1
			switch r.Intn(5) {
			case 0:
				if n, ok := s.Take(); ok {
					tell(n)
				}
			case 1:
				l, _ := s.TakeAll(r.Intn(7))
				for _, n := range l {
					tell(n)
				}
			case 2:
				if s.Claim(n) {
					tell(n)
				}
			default:
				if s.Give(n) != told[n] {
					t.Fatalf("seed %d: Give(%d) = %t", seed, n, !told[n])
				}
				delete(told, n)
			}
			if s.Free() != s.To()-s.From()-len(told) {
				t.Fatalf("seed %d: Free() = %d with %d told of %d", seed, s.Free(), len(told), s.To()-s.From())
			}
		}
	}
}

func TestNotTheWayThere(t *testing.T) { // 4.7
	for seed := range 30 {
		r := rand.New(rand.NewSource(int64(seed)))
		x := stretches[r.Intn(len(stretches))]
		var want []int
		for n := x[0]; n < x[1]; n++ {
			if r.Intn(2) == 0 {
				want = append(want, n)
			}
		}
		for _, s := range ways(t, r, x[0], x[1], want) {
			wantFree(t, s, x[0], x[1], want)
			wantRefused(t, s, len(want)+1)
			for _, n := range want {
				wantTake(t, s, n)
			}
			wantNone(t, s)
		}
	}
}

// ways: spaces of which these are free, each come to in another way.
func ways(t *testing.T, r *rand.Rand, from, to int, free []int) []*Space {
	claimed := made(t, from, to)
	for _, k := range r.Perm(to - from) {
		if !slices.Contains(free, from+k) {
			claimed.Claim(from + k)
		}
	}
	given := made(t, from, to)
	given.TakeAll(to - from)
	for _, k := range r.Perm(len(free)) {
		given.Give(free[k])
	}
	taken := made(t, from, to)
	for range to - from {
		taken.Take()
	}
	for _, n := range free {
		taken.Give(n)
	}
	wandered := made(t, from, to)
	for range 3 * (to - from) {
		n := from + r.Intn(to-from)
		if !wandered.Claim(n) {
			wandered.Give(n)
		}
	}
	for n := from; n < to; n++ {
		if slices.Contains(free, n) {
			wandered.Give(n)
		} else {
			wandered.Claim(n)
		}
	}
	return []*Space{claimed, given, taken, wandered, wandered.Copy()}
}

// scribble writes over a list, and over the spare room behind it.
func scribble(l []int) {
	l = l[:cap(l)]
	for i := range l {
		l[i] = -7
	}
}

func TestAnswersAreNewMemory(t *testing.T) { // 4.8
	s := made(t, 60, 200)
	first, _ := s.TakeAll(10)
	second, _ := s.TakeAll(10)
	list, again := s.List(), s.List()
	scribble(first)
	if !slices.Equal(second, numbers(70, 80)) || !slices.Equal(list, numbers(80, 200)) {
		t.Error("TakeAll's answer shares memory with another one")
	}
	scribble(second)
	scribble(list)
	if !slices.Equal(again, numbers(80, 200)) {
		t.Error("List's answer shares memory with another one")
	}
	wantFree(t, s, 60, 200, numbers(80, 200))
	none, _ := s.TakeAll(0)
	scribble(none)
	c := s.Copy()
	scribble(s.List())
	wantFree(t, c, 60, 200, numbers(80, 200))
	wantTakeAll(t, s, numbers(80, 200)...)
	scribble(s.List())
	wantFree(t, s, 60, 200, nil)
}

func TestNothingInCommon(t *testing.T) { // 4.8
	a, b, c := made(t, 0, 130), made(t, 0, 130), made(t, 64, 70)
	wantTakeAll(t, a, numbers(0, 130)...)
	wantFree(t, b, 0, 130, numbers(0, 130))
	wantFree(t, c, 64, 70, numbers(64, 70))
	wantGive(t, a, 66, true)
	wantGive(t, b, 66, false)
	wantClaim(t, c, 66, true)
	wantFree(t, a, 0, 130, []int{66})
	wantFree(t, b, 0, 130, numbers(0, 130))
	wantFree(t, made(t, 0, 130), 0, 130, numbers(0, 130))
}

// model: a space told as plainly as may be: of each number whether it is free.
type model struct {
	from int
	free []bool
}

func (m model) inside(n int) bool { return n >= m.from && n < m.from+len(m.free) }

func (m model) list() []int {
	var l []int
	for i, is := range m.free {
		if is {
			l = append(l, m.from+i)
		}
	}
	return l
}

func (m model) take(k int) ([]int, bool) {
	l := m.list()
	if k < 0 || k > len(l) {
		return nil, false
	}
	for _, n := range l[:k] {
		m.free[n-m.from] = false
	}
	return l[:k], true
}

// set makes a number free, or not; false: it is so, or none of the space.
func (m model) set(n int, is bool) bool {
	if !m.inside(n) || m.free[n-m.from] == is {
		return false
	}
	m.free[n-m.from] = is
	return true
}

func TestAgainstModel(t *testing.T) { // 4.1 to 4.8, by turns
	for seed := range 60 {
		r := rand.New(rand.NewSource(int64(seed)))
		from := r.Intn(200)
		size := 1 + r.Intn(300)
		s := made(t, from, from+size)
		m := model{from, slices.Repeat([]bool{true}, size)}
		for step := range 300 {
			what, same := turn(r, s, m)
			if !same {
				t.Fatalf("seed %d, step %d: %s tells otherwise than the model", seed, step, what)
			}
			if r.Intn(20) == 0 {
				old := s
				s = s.Copy()
				upset(old)
			}
			wantFree(t, s, from, from+size, m.list())
		}
	}
}

// turn does one thing to both, and tells which, and whether they answered the same.
func turn(r *rand.Rand, s *Space, m model) (string, bool) {
	n := m.from - 5 + r.Intn(len(m.free)+10)
	switch r.Intn(6) {
	case 0:
		k := r.Intn(len(m.free)/2+3) - 1
		l, ok := s.TakeAll(k)
		want, is := m.take(k)
		return fmt.Sprintf("TakeAll(%d)", k), ok == is && slices.Equal(l, want)
	case 1:
		n, ok := s.Take()
		l, is := m.take(1)
		return "Take()", ok == is && (ok && n == l[0] || !ok && n == 0)
	case 2:
		return fmt.Sprintf("Claim(%d)", n), s.Claim(n) == m.set(n, false)
	default:
		return fmt.Sprintf("Give(%d)", n), s.Give(n) == m.set(n, true)
	}
}
