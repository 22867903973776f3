package den

import (
	"fmt"
	"math"
	"math/rand"
	"runtime"
	"strings"
	"testing"
	"time"

	"kiln/api"
)

// hard: a manifest whose tasks take long, and its source: so long that a channel is closed ahead of the end.
func hard(width int) (string, []api.File) {
	manifest := ""
	for i := range api.MaxTasks {
		in := ""
		if i >= width {
			in = fmt.Sprint(" o", i-width)
		}
		manifest += task(fmt.Sprint("t", i), api.MaxBudget, "f g"+in, fmt.Sprintf("o%d = each(l,in(g),key(in(f)))", i))
	}
	return manifest, append(fat(api.MaxFile), files("g", strings.Repeat("\n", 40))...)
}

// settled: how many goroutines there are, when those that are about to end have ended.
func settled(want int) int {
	for range 2000 {
		if runtime.NumGoroutine() <= want {
			break
		}
		time.Sleep(time.Millisecond)
	}
	return runtime.NumGoroutine()
}

func shut() chan struct{} {
	done := make(chan struct{})
	close(done)
	return done
}

// 16.6: ErrArg, if there are not 1 to 16 workers, whatever else is wrong; then ErrStopped, whatever else is wrong.
func TestWorkersAndDone(t *testing.T) {
	wrong := files("a", "", "a", "")
	for _, workers := range []int{math.MinInt, -1, 0, 17, 18, 1 << 20, math.MaxInt} {
		for _, done := range []chan struct{}{nil, make(chan struct{}), shut()} {
			for _, manifest := range []string{sorts, "", "task", task("t", 9, "x", `x = ""`), task("t", 9, "", `x = fail("")`)} {
				for _, src := range [][]api.File{nil, example(), wrong} {
					if l, f := Side(done, workers, manifest, src); len(l) != 0 || f != (api.Fault{Err: api.ErrArg}) {
						t.Errorf("16.6: %d workers: %s, %v", workers, shown(l), f)
					}
				}
			}
		}
	}
	for workers := 1; workers <= 16; workers++ {
		for _, manifest := range []string{sorts, "", "task", task("t", 9, "x", `x = ""`), task("t", 9, "", `x = fail("")`)} {
			for _, src := range [][]api.File{nil, example(), wrong} {
				if l, f := Side(shut(), workers, manifest, src); len(l) != 0 || f != (api.Fault{Err: api.ErrStopped}) {
					t.Errorf("16.6: stopped ahead of it: %s, %v", shown(l), f)
				}
				want, fault := denPlainly(manifest, src)
				for _, done := range []chan struct{}{nil, make(chan struct{})} {
					if l, f := Side(done, workers, manifest, src); !same(l, want) || f != fault {
						t.Errorf("16.6: Side(%d workers, %q) = %s, %v, want %s, %v", workers, manifest, shown(l), f, shown(want), fault)
					}
				}
			}
		}
	}
}

// 16.6: tasks are run by so many workers, side by side.
func TestSoManyWorkers(t *testing.T) {
	manifest, src := hard(api.MaxTasks)
	for _, workers := range []int{1, 2, 5, 16} {
		stop, ended := api.NewStop(), make(chan api.Fault)
		time.Sleep(20 * time.Millisecond) // those of the tests ahead have ended then
		before := runtime.NumGoroutine()
		go func() {
			_, f := Side(stop.Done(), workers, manifest, src)
			ended <- f
		}()
		want := before + 1 + workers
		for n := 0; n != want; n = runtime.NumGoroutine() {
			select {
			case f := <-ended:
				t.Fatalf("16.6: it has ended with %v, and never %d goroutines were seen", f, want)
			default:
				runtime.Gosched()
			}
		}
		time.Sleep(10 * time.Millisecond)
		if n := runtime.NumGoroutine(); n != want {
			t.Errorf("16.6: %d goroutines, want %d", n, want)
		}
		stop.Close()
		if f := <-ended; f != (api.Fault{Err: api.ErrStopped}) {
			t.Errorf("16.6: stopped meanwhile: %v", f)
		}
		if n := settled(before); n > before {
			t.Errorf("16.6: %d goroutines are left", n-before)
		}
	}
}

// 16.6: stopped meanwhile, in the first level and behind it: ErrStopped, long ahead of the end, and nothing is left.
func TestStopped(t *testing.T) {
	for _, width := range []int{1, 3, api.MaxTasks} {
		manifest, src := hard(width)
		for _, workers := range []int{1, 3, 16} {
			for _, after := range []time.Duration{0, time.Millisecond, 50 * time.Millisecond} {
				before := runtime.NumGoroutine()
				stop := api.NewStop()
				time.AfterFunc(after, stop.Close)
				if l, f := Side(stop.Done(), workers, manifest, src); len(l) != 0 || f != (api.Fault{Err: api.ErrStopped}) {
					t.Errorf("16.6: %d workers, stopped after %v: %s, %v", workers, after, shown(l), f)
				}
				if n := settled(before); n > before {
					t.Errorf("16.6: %d goroutines are left", n-before)
				}
			}
		}
	}
}

// 16.6: stopped at any moment of something short: ErrStopped and no files, or what Den answers; and nothing is left.
func TestStoppedAnywhere(t *testing.T) {
	before := runtime.NumGoroutine()
	for seed := range int64(1500) {
		c := newChance(seed, []int{0, 1}[seed%2])
		manifest, src := c.manifest(12), c.source()
		want, fault := denPlainly(manifest, src)
		stop := api.NewStop()
		spins := c.Intn(2000)
		gone := make(chan struct{})
		go func() {
			for range spins {
				runtime.Gosched()
			}
			stop.Close()
			close(gone)
		}()
		l, f := Side(stop.Done(), 1+c.Intn(16), manifest, src)
		stopped := f == api.Fault{Err: api.ErrStopped}
		if stopped && len(l) != 0 || !stopped && (f != fault || !same(l, want)) {
			t.Errorf("16.6: stopped meanwhile: %s, %v, want %s, %v", shown(l), f, shown(want), fault)
		}
		<-gone
	}
	if n := settled(before); n > before {
		t.Errorf("16.6: %d goroutines are left", n-before)
	}
}

// 16.6: no goroutine is left, however it ends.
func TestNobodyIsLeft(t *testing.T) {
	before := runtime.NumGoroutine()
	for range 20 {
		for _, manifest := range []string{"", sorts, "task", task("t", 9, "x", `x = ""`), task("t", 9, "nowhere", `x = ""`), task("t", 9, "", `x = fail("")`) + sorts[:5] + "u" + sorts[6:]} {
			for _, workers := range []int{-1, 0, 1, 2, 16, 17} {
				Side(nil, workers, manifest, example())
				Side(make(chan struct{}), workers, manifest, example())
				Side(shut(), workers, manifest, example())
			}
		}
	}
	if n := settled(before); n > before {
		t.Errorf("16.6: %d goroutines are left", n-before)
	}
}

// 16.6: a task that is under way when it is stopped has ended when it answers, however long that takes.
func TestItWaits(t *testing.T) {
	lines := make([]byte, api.MaxFile) // hard to sort
	for i, at := range rand.New(rand.NewSource(9)).Perm(len(lines)) {
		lines[i] = byte(at)
		if i%4 == 3 {
			lines[i] = '\n'
		}
	}
	src := append(files("f", string(lines)), files("g", strings.Repeat("\n", 15))...)
	manifest := ""
	for i := range 4 {
		manifest += task(fmt.Sprint("t", i), api.MaxBudget, "f g", fmt.Sprintf("o%d = each(l,in(g),count(sort(in(f)),\"none\"))", i))
	}
	before := runtime.NumGoroutine()
	stop := api.NewStop()
	time.AfterFunc(5*time.Millisecond, stop.Close)
	if l, f := Side(stop.Done(), 3, manifest, src); len(l) != 0 || f != (api.Fault{Err: api.ErrStopped}) {
		t.Errorf("16.6: %s, %v", shown(l), f)
	}
	for range 50 { // far less than a task takes; a goroutine that has said that it ends needs a little
		if runtime.NumGoroutine() <= before {
			return
		}
		time.Sleep(time.Millisecond)
	}
	t.Errorf("16.6: %d goroutines were left", runtime.NumGoroutine()-before)
}

// What stands behind a fault in the order need not be run: here that would take minutes.
func TestNothingBehindAFault(t *testing.T) {
	src := append(files("g", strings.Repeat("\n", 20)), fat(api.MaxFile)...)
	manifest := ""
	for i := range api.MaxTasks - 1 {
		manifest += task(fmt.Sprintf("t%03d", i), api.MaxBudget, "f g", fmt.Sprintf("o%d = each(l,in(g),cat(key(in(f)),key(in(f)),key(in(f)),key(in(f)),key(in(f)),key(in(f))))", i))
	}
	manifest += task("a", 9, "", `o = fail("")`)
	for _, call := range []func() ([]api.File, api.Fault){
		func() ([]api.File, api.Fault) { return Den(manifest, src) },
		func() ([]api.File, api.Fault) { return Side(nil, 1, manifest, src) },
		func() ([]api.File, api.Fault) { return Side(nil, 2, manifest, src) },
	} {
		from := time.Now()
		if l, f := call(); len(l) != 0 || f != (api.Fault{Err: api.ErrFailed, Task: "a"}) {
			t.Errorf("16.5: %s, %v", shown(l), f)
		}
		if took := time.Since(from); took > 10*time.Second {
			t.Errorf("it took %v", took)
		}
	}
}

// What no walk in the order comes to is not kept: of levels of which each brings far too much, ahead of what was there, hardly more than one is held.
func TestLetGo(t *testing.T) {
	manifest, src := "", fat(api.MaxFile)
	for level := range 4 {
		manifest += task(fmt.Sprint("a", level), 99, fmt.Sprint("p", level), fmt.Sprintf("p%d = \"\"", level+1))
		manifest += crowd(fmt.Sprint("m", 9-level, "-"), 20, fmt.Sprint("f p", level), fmt.Sprint("o", level, "/"), "in(f)")
	}
	b, fault := newBench(manifest, append(src, files("p0", "")...))
	if fault != (api.Fault{}) {
		t.Fatal(fault)
	}
	c := newCrew(b, nil)
	if !c.runAll(2) {
		t.Fatal("stopped by nobody")
	}
	held := 0
	for _, data := range b.data {
		held += len(data)
	}
	if most := api.MaxTotal + (api.MaxOuts+1)*api.MaxFile; held > most || held < api.MaxTotal {
		t.Errorf("%d bytes are held, of %d", held, most)
	}
	if _, f := b.tree(c.errOf); f != (api.Fault{Err: api.ErrTree, Task: "m6-016"}) {
		t.Errorf("16.6: %v", f)
	}
}
