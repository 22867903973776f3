package drill

import (
	"fmt"
	"math"
	"slices"
	"strconv"
	"strings"
	"testing"
)

// wantWords: that a line is cut as the chapter's words say.
func wantWords(t *testing.T, line string) {
	t.Helper()
	words, ok := cut(line)
	want, wantOK := plainWords(line)
	if ok != wantOK || !slices.Equal(words, want) {
		t.Fatalf("22.3: %q: %v, %t, want %v, %t", line, words, ok, want, wantOK)
	}
}

// 22.3: all short lines of the bytes that matter.
func TestShortLines(t *testing.T) {
	letters := []string{"\"", "\\", " ", "\t", "#", "a", "n", "x", "0", "7", "-", "\x1f", "\n", "\x7f", "\xff", "é"}
	var grow func(line string, left int)
	grow = func(line string, left int) {
		wantWords(t, line)
		if left > 0 {
			for _, l := range letters {
				grow(line+l, left-1)
			}
		}
	}
	grow("", 5)
}

// 22.3: longer ones, of pieces that are often words.
func TestChanceLines(t *testing.T) {
	pieces := []string{" ", " ", " ", "\t", "\"a b\"", "\"\"", "\"\\\"\"", "\"\\\\\"", "\"\\n#\"", "\"\\x0a\\xff\"", "\"\\x0A\"", "\"\\x0\"", "\"\\x\"", "\"\t\"", "\"\xff\xc3\"", "\"\ufffd\"", "0", "-1", "12", "-0", "01", "1x", "read", "Read", "x", "\"", "\\", "#", "# x \"", "'", "é", "\r", "\x00", "-"}
	c := newChance(1)
	for range 300000 {
		var line string
		for range c.Intn(9) {
			line += pieces[c.Intn(len(pieces))]
		}
		wantWords(t, line)
	}
}

// 22.3: every byte in a literal, by itself and by an escape, and behind a \ and in a \x.
func TestBytesOfLiterals(t *testing.T) {
	for n := range 256 {
		c := string([]byte{byte(n)})
		wantWords(t, "\""+c+"\"")
		wantWords(t, "\"a\\"+c+"\"")
		wantWords(t, "\"a\\"+c+"1\"")
		wantWords(t, c)
		wantWords(t, "a"+c)
		wantWords(t, "a "+c)
		wantWords(t, "1"+c)
		wantWords(t, "\"\""+c)
		for m := range 256 {
			d := string([]byte{byte(m)})
			wantWords(t, "\"\\x"+c+d+"\"")
			wantWords(t, "\""+c+d+"\"")
		}
		x := New()
		play(t, "22.3", x, row{"source " + every(c) + " " + every(c+c), "ok 1"})
		if len(x.files) != 1 || x.files[0].Path != c || string(x.files[0].Data) != c+c {
			t.Errorf("22.3: the byte %d: %q", n, x.files)
		}
		if n >= ' ' && n != '"' && n != '\\' {
			play(t, "22.3", x, row{"unsource \"" + c + "\"", "ok 0"})
		} else {
			play(t, "22.3", x, row{"unsource " + short(c), "ok 0"})
		}
	}
}

// 22.3: numbers, as an int has them.
func TestNumbers(t *testing.T) {
	x := on(t, "format 40 8", "open")
	for _, n := range append(far, 0, 1, 10, -10) {
		s := strconv.Itoa(n)
		words, ok := cut(s)
		if !ok || len(words) != 1 || words[0] != (word{kind: aNumber, number: n}) {
			t.Errorf("22.3: %s: %v, %t", s, words, ok)
		}
		play(t, "22.3", x, row{"unpin " + s, "error 191"})
	}
	for _, s := range []string{"01", "-0", "00", "-01", "+1", "--1", "-", "- 1", "1_0", "0x1", "1.", "1e3", "9223372036854775808", "-9223372036854775809", "18446744073709551617", strings.Repeat("9", 400), "0" + strconv.Itoa(math.MaxInt), "١"} {
		play(t, "22.3", x, row{"unpin " + s, "error 220"})
	}
}

// 22.3: blanks and tabs part words, and stand anywhere else; a remark ends the line.
func TestBlanks(t *testing.T) {
	x := on(t, "format 40 8", "open", "pin")
	for _, blank := range []string{" ", "\t", "  ", "\t \t"} {
		for _, end := range []string{"", blank, blank + "#", blank + "# \"\\", blank + "#\n\x00é"} {
			play(t, "22.3", x,
				row{blank + "list" + blank + "1" + blank + "\"\"" + end, "ok"},
				row{"list" + blank + "1" + blank + "\"\"" + end, "ok"},
				row{end, ""},
			)
		}
	}
	for _, line := range []string{"list1 \"\"", "list 1\"\"", "list\"\" 1", "list 1 \"\"#", "list# 1 \"\"", "list 1# \"\"", "list\n1 \"\"", "list 1 \"\"\n", "list 1 \"\"\r", "list\u00a01 \"\"", "list\v1 \"\"", "list 1 \"\"\"\"", "list 1 \"", "list 1 \"\\\"", "list 1 # \"\"", "#list 1 \"\" "} {
		want := "error 220"
		if line[0] == '#' {
			want = ""
		}
		play(t, "22.3", x, row{line, want})
	}
}

// 22.3, 22.7: a `#` in a literal is one of its bytes.
func TestNoRemark(t *testing.T) {
	x := New()
	play(t, "22.3", x, row{"source \"# a\" \" #\" # \"", "ok 1"})
	if x.files[0].Path != "# a" || string(x.files[0].Data) != " #" {
		t.Errorf("22.3: %q", x.files)
	}
}

// 22.4: literals of answers: every byte, and each pair.
func TestQuote(t *testing.T) {
	for n := range 256 {
		for m := range 256 {
			s := string([]byte{byte(n), byte(m)})
			if got := quote(s); got != answered(s) {
				t.Fatalf("22.4: %q: %s, want %s", s, got, answered(s))
			}
		}
	}
	if quote("") != "\"\"" {
		t.Error("22.4: the empty text")
	}
}

// 22.4: bytes come back as they went in, by read and by more.
func TestBytesThroughATree(t *testing.T) {
	x := on(t, "format 200 8", "open")
	var all string
	for n := range 256 {
		all += string([]byte{byte(n)})
	}
	do(t, x, "source \"in\" "+every(all), "build "+manifest("task t 99", "in in", "out o = in(in)", "end"), "run", "pin", "reading 1 \"o\"")
	play(t, "22.4", x, row{"read 1 \"o\"", "ok " + answered(all)}, row{"more 9", "ok " + answered(all)})
	do(t, x, "source \"in\" "+short(all), "build "+manifest("task t 99", "in in", "out o = in(in)", "end"))
	play(t, "22.4", x, row{"run", "ok 3 done 2"}) // nothing is run: it is the same source
}

// 22.4: how long a line may be.
func TestLongLines(t *testing.T) {
	for _, x := range []*Drill{New(), on(t, "format 40 8", "open")} {
		for _, line := range []string{"", "# ", "stat ", "\"", "x\x00", "source \"\" \""} {
			for n := 4090; n < 4096; n++ {
				fit := line + strings.Repeat(" ", n+1-len(line))
				if got := x.Do(fit); got == "error 223" {
					t.Errorf("22.4: %d bytes: %s", len(fit), got)
				}
			}
			for _, n := range []int{4097, 4098, 9999, 1 << 20} {
				play(t, "22.4", x, row{line + strings.Repeat(" ", n-len(line)), "error 223"})
				play(t, "22.4", x, row{line + strings.Repeat("é", n), "error 223"})
			}
		}
	}
	x := New()
	play(t, "22.4", x, row{"source \"p\" \"" + strings.Repeat("x", 4096-13) + "\"", "ok 1"})
	play(t, "22.4", x, row{"source \"p\" \"" + strings.Repeat("y", 4096-12) + "\"", "error 223"})
	if len(x.files[0].Data) != 4096-13 || x.files[0].Data[0] != 'x' {
		t.Error("22.4: a line that is too long has done something")
	}
	for n := range 4200 { // bytes are counted, and not runes
		line := "#" + strings.Repeat("é", n/2) + strings.Repeat("x", n%2)
		want := ""
		if len(line) > 4096 {
			want = "error 223"
		}
		play(t, fmt.Sprint("22.4: ", len(line)), x, row{line, want})
	}
}
