package drill

import (
	"fmt"
	"strings"
	"testing"
)

// What a line needs.
const (
	nothing = iota
	aDisk
	anEngine
	aReading
)

// lines: of each command the words behind it, N for a number, T for a literal, * for any number of numbers; and what it needs.
var lines = map[string]struct {
	words string
	needs int
}{
	"format": {"NN", nothing}, "open": {"", aDisk}, "source": {"TT", nothing}, "unsource": {"T", nothing}, "den": {"T", nothing},
	"crash": {"*", aDisk}, "turn": {"NN", aDisk},
	"build": {"T", anEngine}, "step": {"N", anEngine}, "run": {"", anEngine}, "cancel": {"", anEngine},
	"pin": {"", anEngine}, "unpin": {"N", anEngine}, "read": {"NT", anEngine}, "list": {"NT", anEngine},
	"reading": {"NT", anEngine}, "more": {"N", aReading}, "scavenge": {"", anEngine}, "sweep": {"N", anEngine},
	"check": {"", anEngine}, "stat": {"", anEngine},
}

// setUp: a drill that has what is needed so far.
func setUp(t *testing.T, has int) *Drill {
	t.Helper()
	x := New()
	switch has {
	case aDisk:
		do(t, x, "format 40 8")
	case anEngine:
		do(t, x, "format 40 8", "open")
	case aReading:
		do(t, x, "format 40 8", "open", "build "+text("o", "x"), "run", "pin", "reading 1 \"o\"")
	}
	return x
}

// wantLacks: the error that stands for what a line needs and isn't there.
func wantLacks(needs, has int) string {
	switch {
	case needs >= anEngine && has < anEngine:
		return "error 221"
	case needs == aDisk && has < aDisk, needs == aReading && has < aReading:
		return "error 222"
	}
	return ""
}

// 22.4: each command with rows of up to four words of each kind: what does not fit is 220, whatever is open; what does and lacks something, 221 or 222; all else does something.
func TestWordsThatFit(t *testing.T) {
	var rows []string
	var grow func(row string)
	grow = func(row string) {
		rows = append(rows, row)
		if len(row) < 4 {
			for _, kind := range []string{"N", "T", "C"} {
				grow(row + kind)
			}
		}
	}
	grow("")
	for has := nothing; has <= aReading; has++ {
		for command, l := range lines {
			for _, row := range rows {
				line := command
				for _, kind := range row {
					line += " " + map[rune]string{'N': "1", 'T': "\"o\"", 'C': "o"}[kind]
				}
				fits := row == l.words || l.words == "*" && strings.Trim(row, "N") == ""
				want := wantLacks(l.needs, has)
				if !fits {
					want = "error 220"
				}
				got := setUp(t, has).Do(line)
				if want == "" && (got == "error 220" || got == "error 221" || got == "error 222") || want != "" && got != want {
					t.Errorf("22.4: %s, with %d: %q, want %q", line, has, got, want)
				}
			}
		}
	}
}

// 22.4: a first word that is no command, or no word at all.
func TestFirstWord(t *testing.T) {
	for has := nothing; has <= aReading; has++ {
		x := setUp(t, has)
		for _, line := range []string{"1", "-7 1", "\"stat\"", "\"\"", "a", "stats", "sta", "Stat", "STAT", "stat1", "stat-", "stat.", "st at", "help", "exit", "fo", "close", "kiln", "word 1 \"\"", "=", "stat;", "stat \\", "st\u00e4t", strings.Repeat("stat", 1024), strings.Repeat("a", 4096)} {
			play(t, "22.4", x, row{line, "error 220"})
		}
	}
}

// 22.4: what is no word is told ahead of all that is wrong else; then words that do not fit; then what is not there; then what the line does.
func TestOrderOfErrors(t *testing.T) {
	play(t, "22.4", New(),
		row{strings.Repeat("\\", 4097), "error 223"},
		row{"stat \\", "error 220"}, row{"stat 1", "error 220"}, row{"step", "error 220"}, row{"step 0", "error 221"},
		row{"more", "error 220"}, row{"more 0", "error 221"}, row{"read 1 \"..\"", "error 221"}, row{"build \"\\q\"", "error 220"},
		row{"open 1", "error 220"}, row{"open", "error 222"}, row{"crash", "error 222"}, row{"crash -1 9", "error 222"}, row{"crash \"\"", "error 220"},
		row{"turn -1 -1", "error 222"}, row{"turn 1", "error 220"},
		row{"format 1 1", "error 30"}, row{"format 1", "error 220"}, row{"stat", "error 221"}, row{"open", "error 222"},
	)
	play(t, "22.4", setUp(t, aDisk),
		row{"more 0", "error 221"}, row{"turn 40 -1", "error 31"}, row{"turn -1 0", "error 31"}, row{"turn 39 -1", "error 1"}, row{"turn 39 4096", "error 1"}, row{"turn 0", "error 220"},
	)
	play(t, "22.4", setUp(t, anEngine),
		row{"more 0", "error 222"}, row{"more 1", "error 222"}, row{"step 0", "error 214"}, row{"sweep 0", "error 214"}, row{"more", "error 220"},
	)
}

// 22.4: a command's words are never of another one: each is looked up whole.
func TestAllCommands(t *testing.T) {
	if n := len(commands()); n != len(lines) {
		t.Errorf("22.4: %d commands", n)
	}
	for command := range lines {
		if _, ok := commands()[command]; !ok {
			t.Errorf("22.4: no %s", command)
		}
	}
	// All of up to three letters are none, but for two.
	x := New()
	for n := range 26 + 26*26 + 26*26*26 {
		var line string
		for m := n; m >= 0; m = m/26 - 1 {
			line = string(rune('a'+m%26)) + line
		}
		want := "error 220"
		switch line {
		case "run", "pin":
			want = "error 221"
		}
		if got := x.Do(line); got != want {
			t.Errorf("22.4: %s: %s", line, got)
		}
	}
}

// 22.7: a line that is a remark, empty or refused with 220 changes nothing; nor does one that lacks what it needs, or is too long.
func TestNothingChanges(t *testing.T) {
	for has := nothing; has <= aReading; has++ {
		x, twin := setUp(t, has), setUp(t, has)
		for _, line := range []string{"", " ", "# format 20 8", "format 20", "format 20 8 8", "format 20 8 \"", "source \"p\"", "source \"p\" \"q\" 1", "crash \"\"", "crash 1 a", "turn 12", "unpin", "open 1", "more", "scavenge 1", "build", "source 1 2", strings.Repeat(" ", 4090) + "pin pin"} {
			x.Do(line)
		}
		for _, command := range []string{"stat", "more 0", "sweep 1", "step 1", "check", "source \"z\" \"\"", "pin", "unpin 9", "more 9", "crash", "open", "pin", "format 30 8"} {
			if got, want := x.Do(command), twin.Do(command); got != want {
				t.Errorf("22.7: with %d: %s: %s, want %s", has, command, got, want)
			}
		}
		if got, want := fmt.Sprint(x.Image()), fmt.Sprint(twin.Image()); got != want {
			t.Errorf("22.7: with %d: another image", has)
		}
	}
}
