package term

import (
	"crypto/sha256"
	"fmt"
	"math"
	"math/rand"
	"strings"
	"testing"

	"kiln/api"
)

// bound: a name, and what it stands for.
type bound struct{ name, text string }

// plain runs terms as the chapter's words stand there, a step at a time.
type plain struct {
	ins   []api.File
	names []bound // the innermost last
	left  int
	taken int
}

func (p *plain) step() api.Errno {
	if p.left < 1 {
		return api.ErrBudget
	}
	p.left--
	p.taken++
	return api.OK
}

// pay takes the steps of values.
func (p *plain) pay(values ...string) api.Errno {
	for _, v := range values {
		for i := range len(v) {
			if i%64 == 0 {
				if err := p.step(); err != api.OK {
					return err
				}
			}
		}
	}
	return api.OK
}

// linesPlainly: each with its 0a, as far as it has one.
func linesPlainly(a string) []string {
	var l []string
	start := 0
	for i := range len(a) {
		if a[i] == 0x0a {
			l = append(l, a[start:i+1])
			start = i + 1
		}
	}
	if start < len(a) {
		l = append(l, a[start:])
	}
	return l
}

func textPlainly(line string) string {
	if line != "" && line[len(line)-1] == 0x0a {
		return line[:len(line)-1]
	}
	return line
}

func textsPlainly(a string) []string {
	var l []string
	for _, line := range linesPlainly(a) {
		l = append(l, textPlainly(line))
	}
	return l
}

func abovePlainly(a, b string) bool {
	for i := range min(len(a), len(b)) {
		if a[i] != b[i] {
			return a[i] > b[i]
		}
	}
	return len(a) > len(b)
}

func sortPlainly(l []string) {
	for i := range l {
		for j := i; j > 0 && abovePlainly(l[j-1], l[j]); j-- {
			l[j-1], l[j] = l[j], l[j-1]
		}
	}
}

// replacePlainly tells too how many were replaced.
func replacePlainly(a, b, c string) (string, int) {
	v, n := "", 0
	for i := 0; i < len(a); {
		if strings.HasPrefix(a[i:], b) {
			v, n, i = v+c, n+1, i+len(b)
		} else {
			v, i = v+a[i:i+1], i+1
		}
	}
	return v, n
}

// mapPlainly turns the bytes of from into those of to that stand at the same place.
func mapPlainly(a, from, to string) string {
	v := ""
	for i := range len(a) {
		if at := strings.IndexByte(from, a[i]); at >= 0 {
			v += to[at : at+1]
		} else {
			v += a[i : i+1]
		}
	}
	return v
}

const (
	small = "abcdefghijklmnopqrstuvwxyz"
	big   = "ABCDEFGHIJKLMNOPQRSTUVWXYZ"
)

// known: whether the number 2 of how a node is run lets a node go on.
func (p *plain) known(t api.Term) bool {
	switch t.Kind {
	case api.TText:
		return len(t.Args) == 0
	case api.TIn:
		for _, f := range p.ins {
			if f.Path == t.Text {
				return len(t.Args) == 0
			}
		}
		return false
	case api.TVar:
		for _, b := range p.names {
			if b.name == t.Text {
				return len(t.Args) == 0
			}
		}
		return false
	case api.TCat:
		return len(t.Args) >= 1
	case api.TUpper, api.TLower, api.TLines, api.TSort, api.TUniq, api.TKey, api.TFail:
		return len(t.Args) == 1
	case api.TCount, api.TEach:
		return len(t.Args) == 2
	case api.TReplace, api.TIf:
		return len(t.Args) == 3
	}
	return false
}

// run runs a node.
func (p *plain) run(t api.Term) (string, api.Errno) {
	if err := p.step(); err != api.OK {
		return "", err
	}
	if !p.known(t) {
		return "", api.ErrUnknown
	}
	v, looks, err := p.made(t)
	if err != api.OK {
		return "", err
	}
	if len(v) > api.MaxFile {
		return "", api.ErrValue
	}
	if err := p.pay(append(looks, v)...); err != api.OK {
		return "", err
	}
	return v, api.OK
}

// made: the value of a node, and those that it looks at.
func (p *plain) made(t api.Term) (string, []string, api.Errno) {
	switch t.Kind {
	case api.TText:
		return t.Text, nil, api.OK
	case api.TIn:
		for _, f := range p.ins {
			if f.Path == t.Text {
				return string(f.Data), nil, api.OK
			}
		}
	case api.TVar:
		for i := len(p.names) - 1; i >= 0; i-- {
			if p.names[i].name == t.Text {
				return p.names[i].text, nil, api.OK
			}
		}
	case api.TCat:
		v := ""
		for _, a := range t.Args {
			x, err := p.run(a)
			if err != api.OK {
				return "", nil, err
			}
			if v += x; len(v) > api.MaxFile {
				return "", nil, api.ErrValue
			}
		}
		return v, nil, api.OK
	case api.TIf:
		x, err := p.run(t.Args[0])
		if err != api.OK {
			return "", nil, err
		}
		if len(x) > 0 {
			x, err = p.run(t.Args[1])
		} else {
			x, err = p.run(t.Args[2])
		}
		return x, nil, err
	case api.TEach:
		return p.each(t)
	}
	return p.looks(t)
}

func (p *plain) each(t api.Term) (string, []string, api.Errno) {
	a, err := p.run(t.Args[0])
	if err != api.OK {
		return "", nil, err
	}
	v := ""
	for _, text := range textsPlainly(a) {
		p.names = append(p.names, bound{t.Text, text})
		x, err := p.run(t.Args[1])
		p.names = p.names[:len(p.names)-1]
		if err != api.OK {
			return "", nil, err
		}
		if v += x; len(v) > api.MaxFile {
			return "", nil, api.ErrValue
		}
	}
	return v, nil, api.OK
}

// looks: of the nodes that run all their arguments and make something of them.
func (p *plain) looks(t api.Term) (string, []string, api.Errno) {
	var args []string
	for _, a := range t.Args {
		x, err := p.run(a)
		if err != api.OK {
			return "", nil, err
		}
		args = append(args, x)
	}
	a, v := args[0], ""
	switch t.Kind {
	case api.TUpper:
		v = mapPlainly(a, small, big)
	case api.TLower:
		v = mapPlainly(a, big, small)
	case api.TLines:
		for k, line := range linesPlainly(a) {
			if k >= t.N && k < t.M {
				v += line
			}
		}
	case api.TSort:
		l := textsPlainly(a)
		sortPlainly(l)
		for _, text := range l {
			v += text + "\n"
		}
	case api.TUniq:
		l := textsPlainly(a)
		for i, text := range l {
			if i == 0 || l[i-1] != text {
				v += text + "\n"
			}
		}
	case api.TReplace, api.TCount:
		if len(args[1]) == 0 || len(args[1]) > api.MaxPattern {
			return "", nil, api.ErrEmpty
		}
		if t.Kind == api.TReplace {
			v, _ = replacePlainly(a, args[1], args[2])
		} else {
			_, n := replacePlainly(a, args[1], "")
			v = fmt.Sprint(n)
		}
		return v, args[:2:2], api.OK
	case api.TKey:
		v = fmt.Sprintf("%x", sha256.Sum256([]byte(a)))
	case api.TFail:
		return "", nil, api.ErrFailed
	}
	return v, args[:1:1], api.OK
}

// runPlainly: what Run must answer; of an error too how many steps were taken ahead of it.
func runPlainly(t api.Term, ins []api.File, budget int) (string, int, api.Errno) {
	p := &plain{ins: ins, left: budget}
	v, err := p.run(t)
	return v, p.taken, err
}

// chance: what chance terms and files are made by.
type chance struct {
	*rand.Rand
	wrong int // one of so many nodes may be one that can't be; 0: none
}

func newChance(seed int64, wrong int) chance { return chance{rand.New(rand.NewSource(seed)), wrong} }

// bytes: mostly few, of few kinds, and sometimes just about as many as cost one or two steps.
func (c chance) bytes() string {
	n := c.Intn(8)
	if c.Intn(8) == 0 {
		n = []int{63, 64, 65, 127, 128, 129}[c.Intn(6)]
	}
	b := make([]byte, n)
	for i := range b {
		b[i] = "ab\nab\nAzZ`{@[\x00\xe4\xff\r"[c.Intn(17)]
	}
	return string(b)
}

func (c chance) name() string { return []string{"x", "y", "", "x/y"}[c.Intn(4)] }

func (c chance) path() string { return []string{"f", "g", "d/f", "", "x"}[c.Intn(5)] }

func (c chance) number() int {
	if c.Intn(10) == 0 {
		return []int{math.MinInt, -1, math.MaxInt, api.MaxNumber}[c.Intn(4)]
	}
	return c.Intn(5)
}

func (c chance) files() []api.File {
	var l []api.File
	for _, p := range []string{"f", "g", "d/f", "f", "g", "other"} {
		if c.wrong == 0 || c.Intn(20) > 0 {
			l = append(l, api.File{Path: p, Data: []byte(c.bytes())})
		}
	}
	return l
}

// term: a term at most so deep, in which these names are bound.
func (c chance) term(deep int, names ...string) api.Term {
	if c.wrong > 0 && c.Intn(c.wrong) == 0 {
		return c.wrongTerm(deep, names...)
	}
	kind := 1 + c.Intn(15)
	if deep <= 1 {
		kind = 1 + c.Intn(3)
	}
	if kind == api.TFail && c.wrong == 0 || kind == api.TVar && len(names) == 0 && c.wrong == 0 {
		kind = api.TText
	}
	t := api.Term{Kind: kind}
	args := 1
	switch kind {
	case api.TText:
		t.Text, args = c.bytes(), 0
	case api.TIn:
		t.Text, args = []string{"f", "g", "d/f"}[c.Intn(3)], 0
	case api.TVar:
		t.Text, args = c.name(), 0
		if len(names) > 0 {
			t.Text = names[c.Intn(len(names))]
		}
	case api.TCat:
		args = 1 + c.Intn(3)
	case api.TLines:
		t.N, t.M = c.number(), c.number()
	case api.TEach:
		t.Text = c.name()
		t.Args = append(t.Args, c.term(deep-1, names...), c.term(deep-1, append(names[:len(names):len(names)], t.Text)...))
		return t
	case api.TReplace, api.TIf:
		args = 3
	case api.TCount:
		args = 2
	}
	for range args {
		t.Args = append(t.Args, c.term(deep-1, names...))
	}
	if (kind == api.TReplace || kind == api.TCount) && c.Intn(4) > 0 {
		t.Args[1] = api.Term{Kind: api.TText, Text: []string{"a", "b", "\n", "ab", "aa", "a\na"}[c.Intn(6)]}
	}
	return t
}

// wrongTerm: one that is likely wrong, by its Kind, its arguments, its Text.
func (c chance) wrongTerm(deep int, names ...string) api.Term {
	t := api.Term{Kind: c.Intn(18) - 1, Text: c.path(), N: c.number(), M: c.number()}
	for range c.Intn(5) {
		if deep > 1 {
			t.Args = append(t.Args, c.term(deep-1, names...))
		}
	}
	return t
}

// 14.1: chance terms, with budget enough and with less, against the plain reading of the chapter.
func TestAsRead(t *testing.T) {
	came := map[api.Errno]int{}
	for seed := range int64(20000) {
		c := newChance(seed, []int{0, 15, 60}[seed%3])
		x, ins := c.term(1+c.Intn(6)), c.files()
		_, taken, err := runPlainly(x, ins, math.MaxInt)
		came[err]++
		for _, budget := range []int{math.MaxInt, taken, taken - 1, c.Intn(taken + 1)} {
			wantAsRead(t, x, ins, budget)
		}
	}
	for _, err := range []api.Errno{api.OK, api.ErrFailed, api.ErrEmpty, api.ErrUnknown} {
		if came[err] < 100 {
			t.Errorf("the chance terms have %d only %d times", err, came[err])
		}
	}
}
