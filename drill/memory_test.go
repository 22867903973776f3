package drill

import (
	"fmt"
	"slices"
	"strings"
	"sync"
	"testing"
	"unsafe"
)

// 22.6: an Image is new memory, spare room too: what is done to it is not seen, and no two sectors of one share any.
func TestImageIsNew(t *testing.T) {
	x := worn(t)
	image, other := x.Image(), x.Image()
	for n := range image {
		if len(image[n]) != 512 {
			t.Fatalf("22.1: a sector of %d bytes", len(image[n]))
		}
		for i := range image[n][:cap(image[n])] {
			image[n][:cap(image[n])][i] = byte(n)
		}
	}
	for n, b := range image {
		for _, c := range b {
			if c != byte(n) {
				t.Fatal("22.6: two sectors share memory")
			}
		}
	}
	image = append(image, nil)[:0]
	for n, b := range x.Image() {
		if !slices.Equal(b, other[n]) {
			t.Fatalf("22.6: the drill's sector %d was changed", n)
		}
	}
	play(t, "22.6", x, row{"check", "ok -1"})
	do(t, x, "turn 50 1", "crash")
	if slices.Equal(x.Image()[50], other[50]) {
		t.Error("22.6: an Image is the disk's")
	}
}

// 22.6: a line and a script are not kept: what their bytes become is not seen.
func TestLinesAreNotKept(t *testing.T) {
	x, twin := New(), New()
	for _, line := range append(slices.Clone(wornLines), "run", "read 1 \"d/o\"", "reading 1 \"d/o\"", "more 1", "more 99", "unsource \"in\"", "den "+chained, "stat") {
		b := []byte(line)
		got := x.Do(unsafe.String(unsafe.SliceData(b), len(b)))
		kept := strings.Clone(got)
		for i := range b {
			b[i] = '#'
		}
		if want := twin.Do(line); got != kept || got != want {
			t.Fatalf("22.6: %.99q: %.99q, want %.99q", line, got, want)
		}
	}
	b := []byte(strings.Join(wornLines, "\n") + "\nread 1 \"d/o\"\nstat")
	want, _ := Run(string(b))
	got, _ := Run(unsafe.String(unsafe.SliceData(b), len(b)))
	for i := range b {
		b[i] = 'x'
	}
	if got != want {
		t.Error("22.6: a script's bytes are in its answers")
	}
}

// 22.6: two drills know nothing of one another: many by turns, and side by side, answer as each alone.
func TestDrillsApart(t *testing.T) {
	const drills, calls = 6, 200
	var scripts, want [drills][]string
	for i := range drills {
		c, x := newChance(int64(i+1)), New()
		for range calls {
			line := c.line()
			scripts[i], want[i] = append(scripts[i], line), append(want[i], x.Do(line))
		}
	}
	var all [drills]*Drill
	for i := range all {
		all[i] = New()
	}
	for at := range calls {
		for i, x := range all {
			if got := x.Do(scripts[i][at]); got != want[i][at] {
				t.Fatalf("22.6: by turns: %.99q: %.99q, want %.99q", scripts[i][at], got, want[i][at])
			}
		}
	}
	var wait sync.WaitGroup
	for i := range drills {
		wait.Add(1)
		go func() {
			defer wait.Done()
			x := New()
			for at, line := range scripts[i] {
				if got := x.Do(line); got != want[i][at] {
					t.Errorf("22.6: side by side: %.99q: %.99q, want %.99q", line, got, want[i][at])
				}
			}
		}()
	}
	wait.Wait()
}

// 22.6: every call ends and none panics, with bytes of any kind and numbers of any size.
func TestAnyBytes(t *testing.T) {
	c := newChance(7)
	for range 300 {
		x := on(t, "format 40 8", "open", "build "+text("o", "x"), "run", "pin")
		for range 40 {
			line := make([]byte, c.Intn(60))
			for i := range line {
				line[i] = byte(c.Intn(256))
			}
			s := string(line)
			if c.Intn(2) == 0 {
				s = c.of("step", "crash", "sweep", "more", "unpin", "turn 39", "turn", "format", "read 1", "list 1", "reading 1", "den", "build", "source \"in\"") + fmt.Sprint(" ", far[c.Intn(len(far))]) + c.of("", " 1", " "+every(s))
			}
			if got := x.Do(s); strings.Contains(got, "\n") {
				t.Fatalf("22.5: %q: %q", s, got)
			}
			Run(s + "\n" + s)
		}
	}
}
