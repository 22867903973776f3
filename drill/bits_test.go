package drill

import (
	"fmt"
	"slices"
	"strings"
	"testing"
)

// worn: a drill on whose disk nearly all is of something: a pinned generation, the current one, kept results, and a file that is half put.
func worn(t *testing.T) *Drill {
	t.Helper()
	return on(t, wornLines...)
}

// wornLines: what makes it.
var wornLines = []string{
	"format 60 8", "open", chainedSource, "build " + big("d/o", "k", 3), "run", "pin",
	"build " + chained, "run", "build " + text("x", "y"), "step 4", "cancel", "step 1",
	"source \"in\" \"A\"", "build " + chained, "step 8", "cancel", "step 1", "build " + big("q", "w", 4), "step 2",
}

// wornTrees: by generation.
var wornTrees = [][]file{nil, {{"d/o", strings.Repeat("k", 3*480)}}, chainedFiles}

// wantTold: that what is read by a pin is a generation's, or broken; how much of it is.
func wantTold(t *testing.T, x *Drill, pin int, files []file) int {
	t.Helper()
	broken := 0
	for _, f := range files {
		got := x.Do(fmt.Sprintf("read %d %s", pin, short(f.path)))
		if got == "error 61" {
			broken++
		} else if got != "ok "+answered(f.data) {
			t.Errorf("W9: read %d %s: %.200s", pin, f.path, got)
		}
	}
	for _, path := range allDirs(files) {
		d := treeOf(files)
		if path != "" {
			d, _, _, _ = d.at(path)
		}
		got := x.Do(fmt.Sprintf("list %d %s", pin, short(path)))
		if got == "error 61" {
			broken++
		} else if got != d.listing() {
			t.Errorf("W9: list %d %s: %.200s", pin, path, got)
		}
	}
	return broken
}

// W9: a bit of any sector that is turned over: check tells just that sector, if it is held; what needs it is told as broken, and nothing is told that was not published, by this engine or by the next.
func TestOneBit(t *testing.T) {
	var held int
	fmt.Sscan(statOf(t, worn(t))[3], &held)
	checked, hurt, less := 0, 0, 0
	for n := range 60 {
		for _, bit := range []int{0, 5, 97, 255, 300, 4095} {
			x := worn(t)
			do(t, x, fmt.Sprintf("turn %d %d", n, bit))
			check := x.Do("check")
			broken := wantTold(t, x, 1, wornTrees[1])
			switch {
			case check == "ok -1" && broken > 0:
				t.Fatalf("W9: something is broken, of which check tells nothing: %d, %d", n, bit)
			case check != "ok -1" && check != fmt.Sprint("ok ", n):
				t.Fatalf("W9: check: %s, of the sector %d", check, n)
			case check != "ok -1" && bit == 300:
				checked++
			}
			h, l := wantOpen(t, x)
			hurt += h
			less += l
		}
	}
	// Of the file that is half put two sectors are held and not written.
	if checked != held-2 || hurt < 20 || less < 5 {
		t.Errorf("W9: %d sectors are held, check told %d; hurt %d, fewer results %d", held, checked, hurt, less)
	}
}

// wantOpen: what may be told behind a bit that was turned over, of any sector: whether the engine is hurt, whether there are fewer results.
func wantOpen(t *testing.T, x *Drill) (hurt, less int) {
	t.Helper()
	answer := x.Do("open")
	if answer == "error 180" {
		return 0, 0
	}
	var gen, kept int
	if n, _ := fmt.Sscanf(answer, "ok %d %d", &gen, &kept); n != 2 || gen > 2 || kept > []int{0, 7, 3}[gen] { // the older slot has the records of the newer one's tree, too
		t.Fatalf("W9: open: %s", answer)
	}
	if strings.HasSuffix(answer, " hurt") {
		hurt = 1
		play(t, "W9", x, row{"build \"\"", "error 213"}, row{"scavenge", "error 213"})
	} else if gen == 2 && kept < 3 {
		less = 1
	}
	do(t, x, "pin")
	broken := wantTold(t, x, 1, wornTrees[gen])
	if broken > 0 && hurt == 0 || (x.Do("check") == "ok -1") != (hurt == 0) {
		t.Errorf("W9: %s: %d are broken, check: %s", answer, broken, x.Do("check"))
	}
	return hurt, less
}

// W9: check tells each sector that is held and written, and no other.
func TestCheckTellsWhatIsHeld(t *testing.T) {
	lines := wornLines[:len(wornLines)-2] // with no build under way
	want := statOf(t, on(t, lines...))
	told := 0
	for n := range 60 {
		x := on(t, lines...)
		do(t, x, fmt.Sprintf("turn %d %d", n, 8*n))
		switch got := x.Do("check"); got {
		case "ok -1":
		case fmt.Sprint("ok ", n):
			told++
		default:
			t.Errorf("W9: check: %s, of the sector %d", got, n)
		}
	}
	if fmt.Sprint(told) != want[3] {
		t.Errorf("W9: check told %d sectors, held are %s", told, want[3])
	}
}

// 22.5: a bit that the very next line turns over again is as it was.
func TestTwiceTurned(t *testing.T) {
	for seed := range int64(40) {
		c := newChance(seed)
		x, twin := on(t, "format 60 8", "open"), on(t, "format 60 8", "open")
		for range 150 {
			turn := fmt.Sprintf("turn %d %d", c.Intn(64)-2, c.Intn(4200)-50)
			if got := x.Do(turn); got != x.Do(turn) {
				t.Fatalf("22.5: %s: %s", turn, got)
			}
			line := c.line()
			if strings.HasPrefix(line, "format") {
				continue
			}
			if got, want := x.Do(line), twin.Do(line); got != want {
				t.Fatalf("22.5: %.99q: %.200q, want %.200q", line, got, want)
			}
		}
		for n, b := range twin.Image() {
			if !slices.Equal(b, x.Image()[n]) {
				t.Fatalf("22.5: another sector %d", n)
			}
		}
	}
}

// 22.5, 22.6: however many bits are turned over, wherever, every line is answered by one line, and nothing panics.
func TestManyBits(t *testing.T) {
	for group := range 8 {
		t.Run(fmt.Sprint(group), func(t *testing.T) {
			t.Parallel()
			for i := range int64(30) {
				c := newChance(int64(group)*30 + i)
				x := on(t, "format 60 8", "open", "source \"in\" \"b\\na\\n\"", "source \"dir/t\" \"\"")
				many := []int{2, 5, 20}[c.Intn(3)]
				for range 200 {
					line := c.line()
					if strings.HasPrefix(line, "format") {
						line = "open"
					}
					if c.Intn(many) == 0 {
						line = fmt.Sprintf("turn %d %d", c.Intn([]int{2, 10, 25, 60}[c.Intn(4)]), c.Intn([]int{64, 600, 4096}[c.Intn(3)]))
					}
					if got := x.Do(line); strings.Contains(got, "\n") || got == "" && strings.Trim(line, " \t") != "" && !strings.HasPrefix(strings.Trim(line, " \t"), "#") {
						t.Fatalf("22.5: %q: %q", line, got)
					}
				}
			}
		})
	}
}
