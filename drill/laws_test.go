package drill

import (
	"fmt"
	"strings"
	"testing"
)

// chained: a manifest of four tasks, each of which needs the one ahead; and its files over the source of chainedSource.
var chained = manifest(
	"task a 99", "in in", "out d/a = upper(in(in))", "end",
	"task b 99", "in d/a", "out d/b = cat(in(d/a),\"-\")", "out d/e/b = \"same\"", "end",
	"task c 99", "in d/b", "out c = sort(in(d/b))", "end",
	"task d 99", "in c in", "out d.d = cat(in(c),in(in))", "out e = \"same\"", "end",
)

// chainedFiles: what they are.
var chainedFiles = []file{{"c", "-\nA\nB\n"}, {"d/a", "B\nA\n"}, {"d/b", "B\nA\n-"}, {"d/e/b", "same"}, {"d.d", "-\nA\nB\nb\na\n"}, {"e", "same"}}

// chainedSource: a line.
const chainedSource = `source "in" "b\na\n"`

// statOf: the words of a stat.
func statOf(t *testing.T, x *Drill) []string {
	t.Helper()
	l := strings.Fields(x.Do("stat"))
	if len(l) < 11 {
		t.Fatalf("22.4: stat: %q", l)
	}
	return l[1:]
}

// actsOf: how many acts a build does that is run whole.
func actsOf(t *testing.T, x *Drill, want int) int {
	t.Helper()
	var acts, gen int
	answer := x.Do("run")
	if n, err := fmt.Sscanf(answer, "ok %d done %d", &acts, &gen); n != 2 || err != nil || gen != want {
		t.Fatalf("22.4: run: %s", answer)
	}
	return acts
}

// wantFiles: that the tree of a new pin is just these files.
func wantFiles(t *testing.T, promise string, x *Drill, files []file) {
	t.Helper()
	var pin, gen int
	if n, _ := fmt.Sscanf(x.Do("pin"), "ok %d %d", &pin, &gen); n != 2 {
		t.Fatalf("%s: no pin", promise)
	}
	root := treeOf(files)
	for _, f := range files {
		play(t, promise, x, row{fmt.Sprintf("read %d %s", pin, short(f.path)), "ok " + answered(f.data)})
	}
	for _, path := range allDirs(files) {
		d := root
		if path != "" {
			d, _, _, _ = root.at(path)
		}
		play(t, promise, x, row{fmt.Sprintf("list %d %s", pin, short(path)), d.listing()})
	}
	if key := statOf(t, x)[9]; key != fmt.Sprintf("%x", root.key()) {
		t.Errorf("W10: the key %s", key)
	}
	play(t, promise, x, row{fmt.Sprint("unpin ", pin), "ok"})
}

// tangle: a drill whose disk has had other builds, one of them cut off.
func tangle(t *testing.T) *Drill {
	t.Helper()
	x := on(t, "format 120 8", "open", chainedSource, "build "+text("d", "a file where a directory comes"), "run", "build "+manifest("task b 99", "in in", "out d/e/b = in(in)", "out other = \"same\"", "end"), "run")
	do(t, x, "source \"in\" \"else\"", "build "+chained, "step 9", "crash 1 0 1", "open", chainedSource)
	return x
}

// W1, W5, W10: the tree, and its key, of a fresh disk and of one with a past.
func TestAsIfFresh(t *testing.T) {
	fresh, x := on(t, "format 120 8", "open", chainedSource, "build "+chained), tangle(t)
	do(t, x, "build "+chained)
	actsOf(t, fresh, 1)
	actsOf(t, x, 3)
	wantFiles(t, "W5", fresh, chainedFiles)
	wantFiles(t, "W5", x, chainedFiles)
	if statOf(t, fresh)[9] != statOf(t, x)[9] {
		t.Error("W5: another key")
	}
	play(t, "W1", x, row{"den " + chained, "ok c:6 d/a:4 d/b:5 d/e/b:4 d.d:10 e:4"})
}

// crashes: fates of each kind.
var crashes = []string{"crash", "crash 1", "crash 0 1", "crash 1 0", "crash 1 1", "crash 0 0 1", "crash 1 1 1 1 1 1 1 1 1"}

// W2, W6: a crash behind each act of a build, with fates of each kind; then that build once more runs no task that was found.
func TestCrashAtEachAct(t *testing.T) {
	ahead := []string{"format 90 8", "open", chainedSource, "build " + text("o", "x"), "run", "build " + chained}
	all := actsOf(t, on(t, ahead...), 2)
	for n := range all + 1 {
		for _, crash := range crashes {
			x := on(t, ahead...)
			if n > 0 {
				do(t, x, fmt.Sprint("step ", n))
			}
			do(t, x, crash)
			var gen, kept int
			if m, _ := fmt.Sscanf(x.Do("open"), "ok %d %d", &gen, &kept); m != 2 || gen < 1 || gen > 2 || gen == 2 && n < all-1 || gen == 1 && n == all {
				t.Fatalf("W2: behind %d acts, %s: the generation %d", n, crash, gen)
			}
			if n == all-1 && (gen == 2) != (strings.HasPrefix(crash, "crash 1")) {
				t.Errorf("W2: behind %d acts, %s: the generation %d", n, crash, gen)
			}
			if gen == 1 {
				wantFiles(t, "W2", x, []file{{"o", "x"}})
			} else {
				wantFiles(t, "W2", x, chainedFiles)
			}
			if s := statOf(t, x); s[4] != "0" || s[7] != fmt.Sprint(kept) || len(s) != 10 {
				t.Errorf("W7: %v", s)
			}
			do(t, x, "build "+chained)
			actsOf(t, x, gen+1)
			wantFiles(t, "W5", x, chainedFiles)
			runs := 4 - kept
			if gen == 2 {
				runs = 0
			}
			if s := statOf(t, x); s[2] != fmt.Sprint(runs) {
				t.Errorf("W6: behind %d acts, %s: %s tasks are run, %d results were kept", n, crash, s[2], kept)
			}
		}
	}
}

// 21, Behind a crash: which results are kept.
func TestKeptBehindACrash(t *testing.T) {
	ahead := []string{"format 90 8", "open", chainedSource, "build " + chained}
	// A task's acts: its outputs' Writes, a Flush, the record's Write, a Flush.
	behind := []int{1 + 3, 4 + 2 + 3, 9 + 1 + 3, 13 + 1 + 3} // d's second output is there already
	for n := 1; n <= behind[3]; n++ {
		for _, crash := range crashes {
			want := 0
			for _, acts := range behind {
				if n >= acts || n == acts-1 && strings.HasPrefix(crash, "crash 1") {
					want++
				}
			}
			x := on(t, ahead...)
			do(t, x, fmt.Sprint("step ", n), crash)
			play(t, "W6", x, row{"open", fmt.Sprint("ok 0 ", want)})
			do(t, x, "crash", "crash 1 1 1")
			play(t, "W2", x, row{"open", fmt.Sprint("ok 0 ", want)})
		}
	}
}

// W2: a crash in a scavenging, at each of its acts.
func TestCrashInAScavenging(t *testing.T) {
	ahead := []string{"format 90 8", "open", chainedSource, "build " + chained, "run", "build " + text("o", "x"), "step 4", "cancel", "step 1", "scavenge"}
	var all int
	if n, _ := fmt.Sscanf(on(t, ahead...).Do("sweep 9999"), "ok %d done", &all); n != 1 {
		t.Fatal("21.10: no end")
	}
	for n := 1; n <= all; n++ {
		for _, crash := range crashes {
			x := on(t, ahead...)
			do(t, x, fmt.Sprint("sweep ", n), crash)
			kept := 1
			if n == all || n == all-1 && strings.HasPrefix(crash, "crash 1") {
				kept = 0 // its root, which is ahead of them, lasts
			}
			play(t, "W2", x, row{"open", fmt.Sprint("ok 1 ", kept)})
			wantFiles(t, "W2", x, chainedFiles)
		}
	}
}

// W3, 22.7: a pin's tree stays, whatever is built, cut off, cancelled and scavenged, till it is let go of.
func TestReadersStay(t *testing.T) {
	x := on(t, "format 90 8", "open", chainedSource, "build "+chained, "run", "pin", "reading 1 \"d/e/b\"")
	reads := []row{{"list 1 \"\"", "ok c:6 d/ d.d:10 e:4"}, {"list 1 \"d/e\"", "ok b:4"}}
	for _, f := range chainedFiles {
		reads = append(reads, row{"read 1 " + short(f.path), "ok " + answered(f.data)})
	}
	play(t, "W3", x, reads...)
	for i := range 12 {
		letter := string(rune('a' + i))
		for _, line := range []string{"build " + big("d", letter, 5), "step 4", "scavenge", "sweep 2", "source \"in\" " + short(letter), "step 3", "sweep 99", "run", "sweep 99", "sweep 99", "build " + chained, "step 3", "cancel", "run", "scavenge", "sweep 1", "pin", "sweep 9999", "unpin " + fmt.Sprint(i+2), "check", "more 1", "den \"\"", "format 1 1", "?"} {
			x.Do(line)
			play(t, "W3", x, reads...)
		}
	}
	if s := statOf(t, x); s[0] != "13" || s[6] != "1" {
		t.Errorf("W3: %v", s)
	}
	do(t, x, "unpin 1")
	play(t, "W3", x, row{"read 1 \"c\"", "error 191"})
}

// W7: just what is reached is held, each byte string once.
func TestJustWhatIsReached(t *testing.T) {
	x := tangle(t)
	do(t, x, "build "+chained)
	actsOf(t, x, 3)
	do(t, x, "scavenge", "sweep 9999")
	want := fmt.Sprint(heldBy(chainedFiles, 4, 6))
	if s := statOf(t, x); s[3] != want || s[4] != "0" || s[7] != "0" {
		t.Errorf("W7: %v, want %s held", s, want)
	}
	play(t, "W7", x, row{"open", "ok 3 0"})
	if s := statOf(t, x); s[3] != want || s[4] != "0" {
		t.Errorf("W7: %v, want %s held", s, want)
	}
}

// W8: behind a scavenging a heap that has just the room takes the next tree.
func TestRoom(t *testing.T) {
	// Of each: the file's sectors, its root's node, the memo; and of the next tree's the file's once more.
	const room = (9 + 1 + 1) + (7 + 1 + 1) + 7
	x := on(t, fmt.Sprint("format ", 10+room, " 8"), "open", "build "+big("o", "a", 9), "run", "build "+big("p", "b", 4), "step 4", "cancel", "step 1", "scavenge", "sweep 99")
	do(t, x, "build "+big("q", "c", 7))
	actsOf(t, x, 2)
	x = on(t, fmt.Sprint("format ", 10+11+8, " 8"), "open", "build "+big("o", "a", 9), "run", "scavenge", "sweep 99", "build "+big("q", "c", 7))
	play(t, "W8", x, row{"run", "ok 11 fault 60 0 \"\""}) // there is none for the memo
	if s := statOf(t, x); s[0] != "1" || s[1] != "1" {
		t.Errorf("W1: %v", s)
	}
	play(t, "W1", x, row{"pin", "ok 1 1"}, row{"list 1 \"\"", "ok o:4320"})
}

// W11: a reading ends within the sectors of the nodes on its way and of its file; a scavenging within one Read for each sector, and two acts for one root.
func TestItEnds(t *testing.T) {
	x := on(t, "format 200 8", "open", "source \"in\" "+short(strings.Repeat("z", 481)), "build "+chained, "run", "pin")
	for path, want := range map[string]int{"c": 1 + 2, "d/a": 1 + 1 + 2, "d/e/b": 1 + 1 + 1 + 1, "d.d": 1 + 3} {
		do(t, x, "reading 1 "+short(path))
		for range want - 1 {
			play(t, "W11", x, row{"more 1", "ok going"})
		}
		if got := x.Do("more 1"); !strings.HasPrefix(got, "ok \"") {
			t.Errorf("W11: %s: %.99s", path, got)
		}
	}
	s := statOf(t, x)
	do(t, x, "scavenge")
	play(t, "W11", x, row{"sweep 9999", "ok " + s[3] + " done"})
}
