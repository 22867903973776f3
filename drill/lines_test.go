package drill

import (
	"bytes"
	"fmt"
	"strings"
	"testing"

	"kiln/api"
	"kiln/disk"
	"kiln/engine"
)

// The chapter's examples, and what stands behind them.
func TestExamples(t *testing.T) {
	play(t, "22", New(),
		row{"stat", "error 221"},
		row{"format 40 8", "ok"},
		row{"open", "ok 0 0"},
		row{`source "in.txt" "b\na\n"`, "ok 1"},
		row{`build "task t 100\nin in.txt\nout sorted = sort(in(in.txt))\nend\n"`, "ok"},
		row{"run", "ok 9 done 1"},
		row{"pin", "ok 1 1"},
		row{`read 1 "sorted"`, `ok "a\nb\n"`},
		row{`list 1 ""`, "ok sorted:4"},
		row{"unpin 2", "error 191"},
	)
}

// 22.1: a new drill has nothing; Image is what lasts, and not what is in the cache.
func TestNewAndImage(t *testing.T) {
	x := New()
	if x == nil || x.Image() != nil {
		t.Fatal("22.1: a new drill has a disk")
	}
	play(t, "22.1", x, row{"open", "error 222"}, row{"crash", "error 222"}, row{"turn 1 1", "error 222"}, row{"stat", "error 221"}, row{"unsource \"\"", "error 90"}, row{"den \"\"", "ok"})
	if x.Image() != nil {
		t.Error("22.1: refused lines have made a disk")
	}
	do(t, x, "format 40 8")
	wantImage := func(d *disk.Disk) {
		t.Helper()
		got, want := x.Image(), d.Image()
		if len(got) != len(want) {
			t.Fatalf("22.1: %d sectors, want %d", len(got), len(want))
		}
		for n := range want {
			if !bytes.Equal(got[n], want[n]) {
				t.Fatalf("22.1: another sector %d", n)
			}
		}
	}
	d, _ := disk.New(40)
	engine.Format(d, 8)
	wantImage(d)
	do(t, x, "open", "build "+text("o", "x"))
	e, _ := engine.Open(d)
	e.Begin("task t 99\nout o = \"x\"\nend\n", nil)
	for range 9 {
		do(t, x, "step 1")
		e.Step(1)
		wantImage(d)
	}
	do(t, x, "crash")
	wantImage(d)
	if got, err := disk.Load(x.Image()); err != api.OK || got.Sectors() != 40 {
		t.Errorf("22.1: no form of Load: %d", err)
	}
}

// 22.4, format: what is refused changes nothing; what isn't lets go of all but the source.
func TestFormat(t *testing.T) {
	for _, line := range []string{"format 1 8", "format 65537 8", "format 0 8", "format -40 8", "format 9223372036854775807 8", "format 40 7", "format 40 1025", "format 40 -8", "format 11 8", "format 100 98", "format 2 8", "format 1 7"} {
		want := "error 210"
		switch strings.Fields(line)[1] {
		case "1", "65537", "0", "-40", "9223372036854775807":
			want = "error 30"
		case "11", "100", "2":
			want = "error 211"
		}
		x := setUp(t, aReading)
		before := x.Do("stat")
		play(t, "22.4", x, row{line, want}, row{"stat", before}, row{"more 9", "ok \"x\""}, row{"read 1 \"o\"", "ok \"x\""})
		if len(x.Image()) != 40 {
			t.Errorf("22.4: %s: %d sectors", line, len(x.Image()))
		}
	}
	x := setUp(t, aReading)
	do(t, x, "source \"p\" \"q\"")
	play(t, "22.4", x, row{"format 12 8", "ok"}, row{"stat", "error 221"}, row{"more 1", "error 221"}, row{"open", "ok 0 0"}, row{"more 1", "error 222"}, row{"read 1 \"o\"", "error 191"}, row{"source \"r\" \"\"", "ok 2"})
	if len(x.Image()) != 12 {
		t.Errorf("22.4: %d sectors", len(x.Image()))
	}
	play(t, "22.4", x, row{"format 65536 1024", "ok"}, row{"open", "ok 0 0"})
	if s := strings.Fields(x.Do("stat")); s[6] != "64508" {
		t.Errorf("22.4: %v", s)
	}
}

// 22.4, open: the generation and the kept results, of an engine that is new each time; what was open is gone, also where it is refused.
func TestOpen(t *testing.T) {
	x := setUp(t, aReading)
	play(t, "22.4", x, row{"open", "ok 1 0"}, row{"more 1", "error 222"}, row{"unpin 1", "error 191"}, row{"pin", "ok 1 1"})
	do(t, x, "build "+text("p", "y"), "step 4")
	play(t, "22.4", x, row{"open", "ok 1 1"}, row{"step 1", "error 214"})
	x = on(t, "format 40 8", "open", "pin", "reading 1 \"o\"", "turn 0 5") // the only slot
	play(t, "22.4", x, row{"open", "error 180"}, row{"more 1", "error 221"}, row{"stat", "error 221"}, row{"open", "error 180"}, row{"crash", "ok"}, row{"open", "error 180"})
	if len(x.Image()) != 40 {
		t.Error("22.4: an open that is refused has taken the disk")
	}
	play(t, "22.4", x, row{"format 50 8", "ok"}, row{"open", "ok 0 0"})
}

// 22.4, 21.2: open tells the kept results, and not the records.
func TestOpenTellsKept(t *testing.T) {
	x := on(t, "format 60 8", "open", "build "+text("o", "x"), "step 4", "cancel", "step 1", "build "+text("p", "y"), "step 4", "turn 13 9")
	play(t, "22.4", x, row{"open", "ok 0 1"})
	if s := strings.Fields(x.Do("stat")); s[8] != "1" || s[9] != "2" {
		t.Errorf("22.4: %v", s)
	}
}

// 22.4, 21.2: a hurt engine is told as one, by open and by stat.
func TestHurt(t *testing.T) {
	x := setUp(t, aReading)
	do(t, x, "turn 12 9", "crash") // the file's sector
	play(t, "22.4", x, row{"open", "ok 1 0 hurt"})
	s := strings.Fields(x.Do("stat"))
	if len(s) != 12 || s[11] != "hurt" || s[1] != "1" || s[4] != "0" || s[5] != "0" || s[6] != "0" {
		t.Errorf("22.4: stat: %v", s)
	}
	play(t, "22.4", x, row{"build \"\"", "error 213"}, row{"scavenge", "error 213"}, row{"check", "ok 12"}, row{"pin", "ok 1 1"}, row{"step 1", "error 214"}, row{"cancel", "error 214"}, row{"sweep 1", "error 214"})
}

// 22.4, source and unsource: a list of files in the order in which their paths came.
func TestSource(t *testing.T) {
	x := New()
	play(t, "22.4", x,
		row{`unsource "a"`, "error 90"}, row{`source "a" "1"`, "ok 1"}, row{`source "b" "2"`, "ok 2"}, row{`source "" "3"`, "ok 3"}, row{`source "/" "4"`, "ok 4"},
		row{`source "b" "5"`, "ok 4"}, row{`unsource "a"`, "ok 3"}, row{`unsource "a"`, "error 90"}, row{`source "a" "6"`, "ok 4"}, row{`source "" ""`, "ok 4"}, row{`unsource "A"`, "error 90"},
	)
	var got []string
	for _, f := range x.files {
		got = append(got, f.Path+"="+string(f.Data))
	}
	if s := strings.Join(got, " "); s != "b=5 = /=4 a=6" {
		t.Errorf("22.4: %s", s)
	}
	play(t, "22.4", x, row{`den ""`, "fault 162 1"}, row{`unsource ""`, "ok 3"}, row{`den ""`, "fault 162 1"}, row{`unsource "/"`, "ok 2"}, row{`den ""`, "ok"}, row{`source "b/c" ""`, "ok 3"}, row{`den ""`, "fault 162 2"})
	do(t, x, "format 40 8", "open")
	play(t, "22.4", x, row{`build ""`, "error 162 2"}, row{`unsource "b"`, "ok 2"}, row{`build ""`, "ok"}, row{`source "a/b" ""`, "ok 3"}, row{`build ""`, "error 212"})
	y := New()
	for i := range 4097 {
		play(t, "22.4", y, row{fmt.Sprintf("source \"f%d\" \"\"", i), fmt.Sprint("ok ", i+1)})
	}
	play(t, "22.4", y, row{"den \"\"", "fault 162 4096"}, row{"unsource \"f0\"", "ok 4096"}, row{"den \"\"", "ok"})
}

// 22.4, den: the tree's files with their lengths, or the fault; the disk and the engine are not looked at.
func TestDen(t *testing.T) {
	tree := manifest("task t 99", "in in", "out d/z = in(in)", "out b = cat(in(in),in(in))", "out d.a = \"\"", "end")
	for has := nothing; has <= aReading; has++ {
		x := setUp(t, has)
		play(t, "22.4", x,
			row{"den " + tree, "fault 160 0 \"t\""}, row{"source \"in\" \"abc\"", "ok 1"}, row{"den " + tree, "ok b:6 d/z:3 d.a:0"}, row{"den \"\"", "ok"}, row{"den \"# x\"", "ok"},
			row{"den \"\\n\\ntask\"", "fault 120 3 \"\""}, row{"den \"'\"", "fault 110 1 \"\""}, row{"den " + manifest("task t 1", "in in", "out a = sort(in(in))", "end"), "fault 140 0 \"t\""},
			row{"den " + manifest("task t-1 9", "in a", "out a = \"\"", "end"), "fault 130 0 \"t-1\""}, row{"den " + manifest("task u 9", "out a = fail(\"\")", "end"), "fault 142 0 \"u\""},
		)
	}
}

// 22.4: a build by its Steps, and each way in which one ends.
func TestBuild(t *testing.T) {
	x := on(t, "format 40 8", "open", "source \"in.txt\" \"b\\na\\n\"")
	play(t, "22.4", x,
		row{"step 1", "error 214"}, row{"run", "error 214"}, row{"cancel", "error 214"},
		row{"build " + sorted, "ok"}, row{"build " + sorted, "error 212"}, row{"step 0", "error 215"}, row{"step -3", "error 215"},
		row{"step 2", "ok 2 going"}, row{"step 1", "ok 1 going"}, row{"step 99", "ok 6 done 1"}, row{"step 1", "error 214"}, row{"run", "error 214"}, row{"cancel", "error 214"},
		row{"build \"\"", "ok"}, row{"run", "ok 5 done 2"},
		row{"build \"\\ntask\"", "ok"}, row{"step 5", "ok 0 fault 120 2 \"\""}, row{"build \"task\"", "ok"}, row{"run", "ok 0 fault 120 1 \"\""},
		row{"build " + manifest("task t 9", "out a = \"x\"", "end", "task u.v 9", "in a", "out b = fail(in(a))", "end"), "ok"}, row{"run", "ok 4 fault 142 0 \"u.v\""},
		row{"build " + big("o", "b", 9), "ok"}, row{"run", "ok 17 done 3"}, row{"build " + big("o", "c", 20), "ok"}, row{"run", "ok 0 fault 60 0 \"\""},
		row{"build " + sorted, "ok"}, row{"step 1", "ok 1 going"}, row{"cancel", "ok"}, row{"cancel", "ok"}, row{"run", "ok 0 fault 217 0 \"\""},
		row{"build " + sorted, "ok"}, row{"cancel", "ok"}, row{"step 9", "ok 0 fault 217 0 \"\""},
		row{"build " + sorted, "ok"}, row{"step 8", "ok 8 going"}, row{"cancel", "error 216"}, row{"run", "ok 1 done 4"},
	)
	if s := strings.Fields(x.Do("stat")); s[1] != "4" || s[2] != "4" || s[3] != "7" {
		t.Errorf("22.4: stat: %v", s)
	}
}

// 22.4: build takes the source as it is then.
func TestSourceOfABuild(t *testing.T) {
	x := on(t, "format 60 8", "open", "source \"in.txt\" \"b\\na\\n\"", "build "+sorted, "source \"in.txt\" \"z\"", "source \"..\" \"\"")
	play(t, "22.4", x, row{"run", "ok 9 done 1"}, row{"pin", "ok 1 1"}, row{"read 1 \"sorted\"", "ok \"a\\nb\\n\""}, row{"build " + sorted, "error 162 1"}, row{"unsource \"..\"", "ok 1"}, row{"build " + sorted, "ok"}, row{"unsource \"in.txt\"", "ok 0"}, row{"run", "ok 9 done 2"}, row{"build " + sorted, "ok"}, row{"run", "ok 0 fault 160 0 \"t\""})
}

// 22.4: who would write a root that another one has waits, and is told so.
func TestWaits(t *testing.T) {
	x := on(t, "format 60 8", "open", "build "+text("o", "x"), "step 4", "cancel", "step 1", "build "+text("p", "y"), "scavenge")
	play(t, "22.4", x,
		row{"sweep 3", "ok 3 going"}, row{"sweep 1", "ok 1 going"}, // it has written the root
		row{"run", "ok 7 waits"}, row{"run", "ok 0 waits"}, row{"step 3", "ok 0 waits"},
		row{"sweep 1", "ok 1 going"}, row{"run", "ok 2 done 1"},
	)
	x = on(t, "format 90 8", "open", "build "+many(0, 8), "step 32", "cancel", "step 1", "build "+text("p", "y"), "scavenge")
	play(t, "22.4", x,
		row{"step 3", "ok 3 going"}, // the journal was full: the root is written
		row{"sweep 99", "ok 10 waits"}, row{"sweep 1", "ok 0 waits"}, row{"step 1", "ok 1 going"}, row{"sweep 1", "ok 1 going"}, row{"run", "ok 5 waits"}, row{"sweep 9", "ok 2 done"}, row{"run", "ok 2 done 1"},
	)
}

// 22.4: pins, and what is read by them.
func TestReaders(t *testing.T) {
	x := on(t, "format 90 8", "open", "build "+manifest("task t 99", "out d/e/f = \"\\x00\"", "out d/g = \"\"", "out h = \"\\\"\\\\\\x7f \\n\\x0a\\x09\"", "end"), "run")
	play(t, "22.4", x,
		row{"pin", "ok 1 1"}, row{"pin", "ok 2 1"}, row{"unpin 1", "ok"}, row{"unpin 1", "error 191"}, row{"unpin 0", "error 191"}, row{"unpin -1", "error 191"},
		row{"read 2 \"d/e/f\"", "ok \"\\x00\""}, row{"read 2 \"d/g\"", "ok \"\""}, row{"read 2 \"h\"", "ok \"\\\"\\\\\\x7f \\n\\n\\x09\""},
		row{"read 1 \"h\"", "error 191"}, row{"read 2 \"\"", "error 50"}, row{"read 2 \"i\"", "error 90"}, row{"read 2 \"d\"", "error 91"}, row{"read 2 \"h/i\"", "error 92"}, row{"read 1 \"\"", "error 191"},
		row{"list 2 \"\"", "ok d/ h:7"}, row{"list 2 \"d\"", "ok e/ g:0"}, row{"list 2 \"d/e\"", "ok f:1"}, row{"list 1 \"\"", "error 191"}, row{"list 2 \"/\"", "error 50"}, row{"list 2 \"h\"", "error 92"}, row{"list 2 \"x\"", "error 90"},
	)
	do(t, x, "build \"\"", "run")
	play(t, "22.4", x, row{"pin", "ok 3 2"}, row{"list 3 \"\"", "ok"}, row{"list 2 \"\"", "ok d/ h:7"})
	for range 62 {
		do(t, x, "pin")
	}
	play(t, "22.4", x, row{"pin", "error 190"}, row{"unpin 9", "ok"}, row{"pin", "ok 66 2"})
}

// 22.4: a reading, and what takes its place or ends it.
func TestReading(t *testing.T) {
	x := on(t, "format 90 8", "open", "build "+manifest("task t 99", "out d/f = \"\\x01\"", "out g = \"2\"", "end"), "run", "pin")
	play(t, "22.4", x,
		row{"more 1", "error 222"}, row{"reading 1 \"d/f\"", "ok"}, row{"more 0", "error 215"}, row{"more -1", "error 215"}, row{"more 1", "ok going"}, row{"more 1", "ok going"}, row{"more 1", "ok \"\\x01\""}, row{"more 1", "error 222"},
		row{"reading 1 \"d/f\"", "ok"}, row{"more 2", "ok going"}, row{"reading 1 \"g\"", "ok"}, row{"more 1", "ok going"}, row{"more 1", "ok \"2\""}, row{"more 1", "error 222"},
		row{"reading 1 \"d/f\"", "ok"}, row{"reading 2 \"g\"", "error 191"}, row{"reading 1 \"\"", "error 50"}, row{"reading 1", "error 220"}, row{"more 9", "ok \"\\x01\""},
		row{"reading 1 \"x\"", "ok"}, row{"more 1", "error 90"}, row{"more 1", "error 222"}, row{"reading 1 \"d\"", "ok"}, row{"more 9", "error 91"}, row{"more 1", "error 222"}, row{"reading 1 \"g/x\"", "ok"}, row{"more 1", "error 92"}, row{"more 1", "error 222"},
		row{"reading 1 \"g\"", "ok"}, row{"unpin 1", "ok"}, row{"more 0", "error 191"}, row{"more 0", "error 222"},
		row{"pin", "ok 2 1"}, row{"reading 2 \"g\"", "ok"}, row{"more 1", "ok going"}, row{"unpin 2", "ok"}, row{"more 1", "error 191"}, row{"more 1", "error 222"},
		row{"pin", "ok 3 1"}, row{"reading 3 \"g\"", "ok"}, row{"crash", "ok"}, row{"more 1", "error 221"}, row{"open", "ok 1 0"}, row{"more 1", "error 222"},
		row{"pin", "ok 1 1"}, row{"reading 1 \"g\"", "ok"}, row{"open", "ok 1 0"}, row{"more 1", "error 222"},
	)
}

// 22.4, W9: a reading that meets something broken is told why, and is there no more.
func TestBrokenReading(t *testing.T) {
	x := on(t, "format 90 8", "open", "build "+text("g", "2"), "run", "pin", "reading 1 \"g\"")
	n := strings.TrimPrefix(turned(t, x), "ok ")
	play(t, "W9", x, row{"more 9", "error 61"}, row{"more 9", "error 222"}, row{"read 1 \"g\"", "error 61"}, row{"scavenge", "ok"}, row{"sweep 99", "ok 2 fault 61"}, row{"sweep 1", "error 214"}, row{"check", "ok " + n})
}

// turned: what check answers behind a bit of the first file's chain that is turned over.
func turned(t *testing.T, x *Drill) string {
	t.Helper()
	do(t, x, "turn 12 300") // behind the empty tree's node and the empty memo
	got := x.Do("check")
	if got != "ok 12" {
		t.Fatalf("W9: check: %s", got)
	}
	return got
}

// 22.4: a scavenging by its Sweeps.
func TestScavenge(t *testing.T) {
	x := on(t, "format 60 8", "open", "build "+big("o", "b", 9), "run", "build "+big("o", "c", 2), "run")
	play(t, "22.4", x,
		row{"sweep 1", "error 214"}, row{"scavenge", "ok"}, row{"scavenge", "error 218"}, row{"sweep 0", "error 215"}, row{"sweep -1", "error 215"}, row{"sweep 1", "ok 1 going"}, row{"scavenge", "error 218"},
		row{"sweep 3", "ok 3 going"}, row{"sweep 1", "ok 0 done"}, row{"sweep 1", "error 214"}, row{"scavenge", "ok"}, row{"sweep 5", "ok 4 done"},
	)
	if s := strings.Fields(x.Do("stat")); s[4] != "4" || s[5] != "0" || s[6] != "46" {
		t.Errorf("22.4: stat: %v", s)
	}
}

// 22.4: stat tells all in its order.
func TestStat(t *testing.T) {
	x := on(t, "format 90 8", "open", "build "+text("o", "x"), "run", "pin", "pin", "build "+text("o", "y"), "run", "build "+text("p", "z"), "step 4")
	e := x.engine.Stat()
	want := fmt.Sprintf("ok %d %d %d %d %d %d %d %d %d %x", e.Gen, e.Turn, e.Runs, e.Held, e.Spent, e.Free, e.Pins, e.Kept, e.Records, e.Key)
	play(t, "22.4", x, row{"stat", want})
	if !strings.HasPrefix(want, "ok 2 2 3 7 2 71 2 1 1 ") {
		t.Errorf("22.4: stat: %s", want)
	}
	if key := strings.Fields(want)[10]; len(key) != 64 || strings.Trim(key, "0123456789abcdef") != "" {
		t.Errorf("22.4: stat: %s", key)
	}
}

// 22.4, crash: each fate is that of one sector, by rising number; the engine and its reading are gone.
func TestCrash(t *testing.T) {
	for line, want := range map[string]string{"crash": "ok 0 1", "crash 0": "ok 0 1", "crash 1": "ok 1 0", "crash 9": "ok 1 0", "crash -1 9": "ok 0 1", "crash 1 2 3": "ok 1 0"} {
		x := on(t, "format 40 8", "open", "build "+text("o", "x"), "step 8") // slot 1 is written, and nothing else since the last Flush
		play(t, "22.4", x, row{line, "ok"}, row{line, "ok"}, row{"stat", "error 221"}, row{"open", want})
		if want == "ok 0 1" {
			continue
		}
		play(t, "22.4", x, row{"pin", "ok 1 1"}, row{"read 1 \"o\"", "ok \"x\""})
	}
	x := on(t, "format 40 8", "open", "build "+big("o", "b", 3), "step 3")
	before := x.Image()
	play(t, "22.4", x, row{"crash 0 1 0", "ok"})
	for n, b := range x.Image() {
		if !bytes.Equal(b, before[n]) != (n == 13) {
			t.Errorf("22.4: crash: the sector %d", n)
		}
	}
}

// 22.4, turn: the bit that is told, in what lasts and in the cache.
func TestTurn(t *testing.T) {
	for _, at := range [][2]int{{39, 4095}, {12, 17}, {0, 0}, {1, 512}} {
		x := on(t, "format 40 8", "open", "build "+text("o", "x"), "step 1")
		before := x.Image()
		do(t, x, fmt.Sprintf("turn %d %d", at[0], at[1]))
		for n, b := range x.Image() {
			want := bytes.Clone(before[n])
			if n == at[0] {
				want[at[1]/8] ^= 1 << (at[1] % 8)
			}
			if !bytes.Equal(b, want) {
				t.Errorf("22.4: turn: the sector %d", n)
			}
		}
		want := "ok -1"
		if at[0] == 12 { // the output's, which is in the cache
			want = "ok 12"
		}
		play(t, "22.4", x, row{"check", want})
	}
	x := on(t, "format 40 8", "open", "build "+text("o", "x"), "step 1")
	play(t, "22.5", x, row{"turn 12 17", "ok"}, row{"turn 12 17", "ok"}, row{"check", "ok -1"}, row{"run", "ok 8 done 1"})
}
