package print

import (
	"crypto/sha256"
	"encoding/binary"
	"fmt"
	"math/rand"
	"slices"
	"strings"

	"kiln/api"
)

// words: how terms begin, by their Kinds.
var words = []string{"", "", "in", "var", "cat", "upper", "lower", "lines", "sort", "uniq", "replace", "count", "if", "each", "key", "fail"}

// quotePlainly: a literal as chapter 11 writes it.
func quotePlainly(s string) string {
	var b strings.Builder
	for _, c := range []byte(s) {
		switch {
		case c == '"' || c == '\\':
			b.WriteString(`\` + string(rune(c)))
		case c == '\n':
			b.WriteString(`\n`)
		case c < 0x20 || c > 0x7e:
			fmt.Fprintf(&b, `\x%02x`, c)
		default:
			b.WriteByte(c)
		}
	}
	return `"` + b.String() + `"`
}

// termPlainly: a term that can be, as chapter 12 writes it.
func termPlainly(x api.Term) string {
	if x.Kind == api.TText {
		return quotePlainly(x.Text)
	}
	var l []string
	if x.Text != "" {
		l = append(l, x.Text)
	}
	for _, a := range x.Args {
		l = append(l, termPlainly(a))
	}
	if x.Kind == api.TLines {
		l = append(l, fmt.Sprint(x.N), fmt.Sprint(x.M))
	}
	return words[x.Kind] + "(" + strings.Join(l, ",") + ")"
}

// textPlainly: a task that can be, as chapter 12 writes it.
func textPlainly(x api.Task) string {
	text := fmt.Sprintf("task %s %d\n", x.Name, x.Budget)
	if len(x.In) > 0 {
		text += "in " + strings.Join(x.In, " ") + "\n"
	}
	for _, o := range x.Out {
		text += "out " + o.Path + " = " + termPlainly(o.Term) + "\n"
	}
	return text + "end\n"
}

// hashedPlainly: the bytes that 15.1 hashes.
func hashedPlainly(x api.Task, keys []api.Key) []byte {
	text := textPlainly(x)
	b := append(binary.AppendUvarint(nil, uint64(len(text))), text...)
	for _, k := range keys {
		b = append(append(b, 32), k[:]...)
	}
	return b
}

// printPlainly: the print of a task that can be, with as many keys as it must have.
func printPlainly(x api.Task, keys []api.Key) api.Key {
	return sha256.Sum256(hashedPlainly(x, keys))
}

// chance makes tasks that can be, and keys.
type chance struct{ *rand.Rand }

func newChance(seed int64) chance { return chance{rand.New(rand.NewSource(seed))} }

func one[T any](c chance, l ...T) T { return l[c.Intn(len(l))] }

func (c chance) key() api.Key {
	var k api.Key
	c.Read(k[:])
	if c.Intn(3) == 0 { // one of few
		k = api.Key{31: k[0] % 3}
	}
	return k
}

func (c chance) keys(n int) []api.Key {
	var l []api.Key
	for range n {
		l = append(l, c.key())
	}
	return l
}

func (c chance) name() string {
	return one(c, "a", "b", "task", "in", "out", "end", "...", "0", strings.Repeat("n", 64))
}

// bytes: some of which must be written by an escape.
func (c chance) bytes() string {
	b := make([]byte, c.Intn(6))
	for i := range b {
		b[i] = one(c, []byte("ab \"\\\n\t#=(),\x00\x20\x7e\x7f\xff")...)
	}
	return string(b)
}

// paths: so many of these, none of which lies under another one.
func (c chance) paths(n int) []string {
	l := []string{"a", "b/a", "b/b", "b.b/a", "task", "in", "out/end", "9", "c/" + strings.Repeat("p", 64), "d", "d.e", "e/f/g", "e/f-g"}
	c.Shuffle(len(l), func(i, j int) { l[i], l[j] = l[j], l[i] })
	return l[:n]
}

// term: not deeper than that.
func (c chance) term(deep int) api.Term {
	x := api.Term{Kind: 1 + c.Intn(15)}
	if deep == 1 {
		x.Kind = 1 + c.Intn(3)
	}
	args := 1
	switch x.Kind {
	case api.TText:
		x.Text, args = c.bytes(), 0
	case api.TIn:
		x.Text, args = c.paths(1)[0], 0
	case api.TVar:
		x.Text, args = c.name(), 0
	case api.TCat:
		args = 1 + c.Intn(3)
	case api.TLines:
		x.N, x.M = one(c, 0, 1, 10, 1<<31-1), c.Intn(1<<31)
	case api.TReplace, api.TIf:
		args = 3
	case api.TCount:
		args = 2
	case api.TEach:
		x.Text, args = c.name(), 2
	}
	for range args {
		x.Args = append(x.Args, c.term(deep-1))
	}
	return x
}

func (c chance) task() api.Task {
	x := api.Task{Name: c.name(), Budget: one(c, 1, 9, 10, 1<<20), In: slices.Clone(c.paths(c.Intn(5)))}
	for _, p := range c.paths(1 + c.Intn(8)) {
		x.Out = append(x.Out, api.Output{Path: p, Term: c.term(1 + c.Intn(4))})
	}
	return x
}
