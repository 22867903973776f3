package drill

import (
	"fmt"
	"math"
	"math/rand"
	"regexp"
	"strconv"
	"strings"
	"testing"
)

// far: numbers outside everything.
var far = []int{math.MinInt, -1 << 32, -2, -1, 1 << 32, math.MaxInt}

// row: a line, and its answer.
type row struct{ line, want string }

// play: lines, one behind the other, that are to be answered so.
func play(t *testing.T, promise string, x *Drill, rows ...row) {
	t.Helper()
	for i, r := range rows {
		if got := x.Do(r.line); got != r.want {
			t.Errorf("%s: line %d, %.200q: %.300q, want %.300q", promise, i, r.line, got, r.want)
		}
	}
}

// do: lines whose answers aren't looked at, but that they must be ok.
func do(t *testing.T, x *Drill, lines ...string) {
	t.Helper()
	for _, line := range lines {
		if got := x.Do(line); got != "ok" && !strings.HasPrefix(got, "ok ") {
			t.Fatalf("%.200q: %q", line, got)
		}
	}
}

// on: a new drill that has played these lines, each of which is ok.
func on(t *testing.T, lines ...string) *Drill {
	t.Helper()
	x := New()
	do(t, x, lines...)
	return x
}

// said: bytes as a literal, each of them as one says it.
func said(s string, say func(b *strings.Builder, c byte)) string {
	var b strings.Builder
	b.WriteByte('"')
	for i := range len(s) {
		say(&b, s[i])
	}
	return b.String() + "\""
}

// every: bytes as a literal, each of them by an escape.
func every(s string) string {
	return said(s, func(b *strings.Builder, c byte) { fmt.Fprintf(b, "\\x%02x", c) })
}

// short: bytes as a literal, as few of them by an escape as can be.
func short(s string) string {
	return said(s, func(b *strings.Builder, c byte) {
		switch {
		case c == '"' || c == '\\':
			b.WriteString("\\" + string(rune(c)))
		case c == '\n':
			b.WriteString("\\n")
		case c < ' ':
			fmt.Fprintf(b, "\\x%02x", c)
		default:
			b.WriteByte(c)
		}
	})
}

// answered: bytes as an answer has them.
func answered(s string) string {
	return said(s, func(b *strings.Builder, c byte) {
		switch {
		case c == 34:
			b.WriteString("\\\"")
		case c == 92:
			b.WriteString("\\\\")
		case c == 10:
			b.WriteString("\\n")
		case c < 0x20 || c >= 0x7f:
			fmt.Fprintf(b, "\\x%02x", c)
		default:
			b.WriteByte(c)
		}
	})
}

// manifest: lines as a literal.
func manifest(l ...string) string {
	return short(strings.Join(l, "\n") + "\n")
}

// sorted: the manifest of the chapter's examples.
var sorted = manifest("task t 100", "in in.txt", "out sorted = sort(in(in.txt))", "end")

// text: a manifest of one task that makes one file of a text.
func text(path, what string) string {
	return manifest("task t 99", "out "+path+" = \""+what+"\"", "end")
}

// big: a manifest of one task that makes one file of so many sectors.
func big(path, letter string, pieces int) string {
	return manifest("task t 9999", "out "+path+" = replace(\""+strings.Repeat("-", pieces)+"\",\"-\",\""+strings.Repeat(letter, 480)+"\")", "end")
}

// many: a manifest of tasks of one small file each, from a number to another one.
func many(from, to int) string {
	var l []string
	for i := from; i < to; i++ {
		name := "f" + string(rune('a'+i))
		l = append(l, "task "+name+" 9", "out "+name+" = \""+strings.ToUpper(name)+"\"", "end")
	}
	return manifest(l...)
}

// Words of a line, as patterns.
var (
	literalForm = regexp.MustCompile(`^"(?:[^"\\\x00-\x1f]|\\["\\n]|\\x[0-9a-f][0-9a-f])*"`)
	escapeForm  = regexp.MustCompile(`\\(?:["\\n]|x[0-9a-f][0-9a-f])`)
	numberForm  = regexp.MustCompile(`^(?:0|-?[1-9][0-9]*)`)
	commandForm = regexp.MustCompile(`^[a-z]+`)
)

// plainWords: 22.3 once more, in the chapter's own words: what comes next, from the left.
func plainWords(line string) ([]word, bool) {
	var l []word
	for {
		rest := strings.TrimLeft(line, " \t")
		if rest == "" || rest[0] == '#' {
			return l, true
		}
		if len(l) > 0 && len(rest) == len(line) {
			return nil, false
		}
		w, size := plainWord(rest)
		if size == 0 {
			return nil, false
		}
		l, line = append(l, w), rest[size:]
		if line != "" && line[0] == '#' {
			return nil, false
		}
	}
}

// plainWord: the word with which a text begins, and how many bytes it has: 0: none.
func plainWord(s string) (word, int) {
	if m := literalForm.FindString(s); m != "" {
		said := escapeForm.ReplaceAllStringFunc(m[1:len(m)-1], func(e string) string {
			switch e[1] {
			case 'n':
				return "\n"
			case 'x':
				n, _ := strconv.ParseUint(e[2:], 16, 8)
				return string([]byte{byte(n)})
			}
			return e[1:]
		})
		return word{kind: aLiteral, text: said}, len(m)
	}
	if m := numberForm.FindString(s); m != "" {
		n, err := strconv.ParseInt(m, 10, 64)
		if err != nil {
			return word{}, 0
		}
		return word{kind: aNumber, number: int(n)}, len(m)
	}
	m := commandForm.FindString(s)
	return word{kind: aCommand, text: m}, len(m)
}

// chance: what comes by chance.
type chance struct {
	*rand.Rand
}

// newChance: the chance of a seed.
func newChance(seed int64) chance {
	return chance{rand.New(rand.NewSource(seed))}
}

// of: one of these.
func (c chance) of(l ...string) string {
	return l[c.Intn(len(l))]
}

// number: as a line has it, mostly small.
func (c chance) number() string {
	if c.Intn(12) == 0 {
		return strconv.Itoa(far[c.Intn(len(far))])
	}
	return strconv.Itoa([]int{0, 1, 1, 1, 2, 2, 3, 4, 5, 7, 9, 20, 99}[c.Intn(13)])
}

// path: of few kinds, at times none.
func (c chance) path() string {
	if c.Intn(20) == 0 {
		return c.of("", "a//b", "/", "..", "a b", "d", "d/", "\x00", "é", strings.Repeat("n", 65))
	}
	return c.of("in", "dir/t", "a", "b", "c", "d/x", "d/y", "d/e/z", "f/g/h")
}

// bytes: of few kinds.
func (c chance) bytes() string {
	return c.of("", "one\n", "b\na\nb", strings.Repeat("x", 480), strings.Repeat("line\n", 97), strings.Repeat("y", 1300), "\x00\x1f \"\\\x7f\xff")
}

// manifest: some tasks, of which one may fail, and at times none at all.
func (c chance) manifest() string {
	free := []string{"a", "b", "c", "d/x", "d/y", "d/e/z", "f/g/h", "f/g/i", "k", "l", "m", "n"}
	c.Shuffle(len(free), func(i, j int) { free[i], free[j] = free[j], free[i] })
	have := []string{"in", "dir/t"}
	m := c.of("", "", "# tasks\n")
	for i := range c.Intn(1 + []int{2, 5, 12}[c.Intn(3)]) {
		var ins []string
		for _, p := range have {
			if c.Intn(4) == 0 {
				ins = append(ins, p)
			}
		}
		out := free[i]
		budget := 9999
		if c.Intn(40) == 0 {
			budget = c.Intn(9) + 1
		}
		m += fmt.Sprintf("task t%d %d\n", c.Intn(3)*20+i, budget)
		if len(ins) > 0 {
			m += "in " + strings.Join(ins, " ") + "\n"
		}
		m += "out " + out + " = " + c.term(ins) + "\n"
		m += "end\n"
		have = append(have, out)
	}
	if c.Intn(5) > 0 {
		return m
	}
	return m + c.of("task", "task q 9\nin nobody\nout q = \"\"\nend\n", "task q 9\nin q\nout q = \"\"\nend\n", "task q 9\nout a = \"\"\nend\n")
}

// term: of few kinds, so that the same bytes come again and again.
func (c chance) term(ins []string) string {
	in := "\"" + strings.Repeat(c.of("p", "q"), []int{0, 1, 1, 480}[c.Intn(4)]) + "\""
	if len(ins) > 0 && c.Intn(3) > 0 {
		in = "in(" + ins[c.Intn(len(ins))] + ")"
	}
	switch c.Intn(8) {
	case 0:
		return "sort(" + in + ")"
	case 1:
		return "cat(" + in + ",\"-\")"
	case 2:
		return "upper(" + in + ")"
	case 3:
		return "key(" + in + ")"
	case 4:
		return "cat(" + in + "," + in + "," + in + ")"
	case 5:
		if c.Intn(10) == 0 {
			return "fail(" + in + ")"
		}
		return "lower(" + in + ")"
	}
	return in
}
