package parse

import (
	"fmt"
	"math/big"
	"math/rand"
	"regexp"
	"slices"
	"strings"

	"kiln/api"
	"kiln/token"
)

var (
	aName   = regexp.MustCompile(`^[a-zA-Z0-9._-]{1,64}$`)
	aNumber = regexp.MustCompile(`^(0|[1-9][0-9]*)$`)
)

func nameSaid(s string) bool {
	return aName.MatchString(s) && s != "." && s != ".."
}

func pathSaid(s string) bool {
	names := strings.Split(s, "/")
	return len(s) <= 255 && len(names) <= 16 && !slices.ContainsFunc(names, func(n string) bool { return !nameSaid(n) })
}

func numberSaid(s string, least, most int64) bool {
	n, ok := new(big.Int).SetString(s, 10)
	return aNumber.MatchString(s) && ok && n.Cmp(big.NewInt(least)) >= 0 && n.Cmp(big.NewInt(most)) <= 0
}

// kinds: the words of terms.
var kinds = map[string]int{
	"in": api.TIn, "var": api.TVar, "cat": api.TCat, "upper": api.TUpper, "lower": api.TLower, "lines": api.TLines, "sort": api.TSort, "uniq": api.TUniq,
	"replace": api.TReplace, "count": api.TCount, "if": api.TIf, "each": api.TEach, "key": api.TKey, "fail": api.TFail,
}

// behindWord: what stands behind the word of a term, as the chapter's table writes it. (Behind the first T of a cat: T.., a comma with a further one, or the end.)
var behindWord = map[string]string{
	"in": "( PATH )", "var": "( NAME )", "cat": "( T T..", "upper": "( T )", "lower": "( T )", "lines": "( T , N , M )", "sort": "( T )", "uniq": "( T )",
	"replace": "( T , T , T )", "count": "( T , T )", "if": "( T , T , T )", "each": "( NAME , T , T )", "key": "( T )", "fail": "( T )",
}

// worst: the errors in the order of 12.1's list.
var worst = []api.Errno{api.ErrWord, api.ErrCount, api.ErrTwice, api.ErrIn, api.ErrOut, api.ErrDeep, api.ErrNone}

// machine: a reading without a method that calls itself: a pile of what must stand there next.
type machine struct {
	pile  []string // its last is the next
	tasks []api.Task
	open  bool        // whether the last task has no end line yet
	tops  []*growing  // the outermost terms
	nodes []*growing  // the terms, nested in one another, whose parts are read
	wrong []api.Errno // all that is wrong with this token
}

// growing: a term whose parts are not all there.
type growing struct {
	term api.Term
	args []*growing
}

func (g *growing) whole() api.Term {
	for _, a := range g.args {
		g.term.Args = append(g.term.Args, a.whole())
	}
	return g.term
}

// push: these must stand next, the first one first.
func (m *machine) push(next string) {
	l := strings.Fields(next)
	slices.Reverse(l)
	m.pile = append(m.pile, l...)
}

func (m *machine) unless(holds bool, err api.Errno) bool {
	if !holds {
		m.wrong = append(m.wrong, err)
	}
	return holds
}

// read: one token.
func (m *machine) read(t api.Token) {
	top := m.pile[len(m.pile)-1]
	m.pile = m.pile[:len(m.pile)-1]
	word := ""
	if t.Kind == api.KWord {
		word = t.Text
	}
	last := len(m.tasks) - 1
	switch top {
	case "line":
		m.line(t, word)
	case "$":
		m.unless(t.Kind == api.KEnd, api.ErrWord)
	case "=", "(", ")", ",":
		m.unless(t.Kind == map[string]int{"=": api.KEqual, "(": api.KLeft, ")": api.KRight, ",": api.KComma}[top], api.ErrWord)
		if top == ")" {
			m.nodes = m.nodes[:len(m.nodes)-1]
		}
	case "NEWNAME":
		m.unless(nameSaid(word), api.ErrWord)
		for _, o := range m.tasks[:last] {
			m.unless(o.Name != word, api.ErrTwice)
		}
		m.tasks[last].Name = word
	case "BUDGET":
		if m.unless(numberSaid(word, 1, 1<<20), api.ErrWord) {
			fmt.Sscan(word, &m.tasks[last].Budget)
		}
	case "INPUT", "INPUT..":
		m.input(top, t.Kind, word)
	case "OUTPUT":
		m.unless(pathSaid(word), api.ErrWord)
		for _, o := range m.tasks {
			for _, p := range o.Out {
				m.unless(!strings.HasPrefix(p.Path+"/", word+"/") && !strings.HasPrefix(word+"/", p.Path+"/"), api.ErrOut)
			}
		}
		m.tasks[last].Out = append(m.tasks[last].Out, api.Output{Path: word})
	default:
		m.inTerm(top, t, word)
	}
}

// line: the first token of a line.
func (m *machine) line(t api.Token, word string) {
	if t.Kind == api.KEnd {
		m.push("line")
		return
	}
	last := len(m.tasks) - 1
	switch {
	case word == "task" && !m.open:
		m.unless(len(m.tasks) < 256, api.ErrCount)
		m.tasks, m.open = append(m.tasks, api.Task{}), true
		m.push("NEWNAME BUDGET $ line")
	case word == "in" && m.open && len(m.tasks[last].In)+len(m.tasks[last].Out) == 0:
		m.push("INPUT INPUT..")
	case word == "out" && m.open:
		m.unless(len(m.tasks[last].Out) < 8, api.ErrCount)
		m.push("OUTPUT = T $ line")
	case word == "end" && m.open:
		m.unless(len(m.tasks[last].Out) > 0, api.ErrNone)
		m.open = false
		m.push("$ line")
	default:
		m.unless(false, api.ErrWord)
	}
}

func (m *machine) input(top string, kind int, word string) {
	t := &m.tasks[len(m.tasks)-1]
	if kind == api.KEnd && top == "INPUT.." {
		m.push("line")
		return
	}
	m.unless(pathSaid(word), api.ErrWord)
	m.unless(len(t.In) < 64, api.ErrCount)
	m.unless(!slices.Contains(t.In, word), api.ErrIn)
	t.In = append(t.In, word)
	if top == "INPUT.." {
		m.push("INPUT..")
	}
}

// inTerm: a token of a term.
func (m *machine) inTerm(top string, t api.Token, word string) {
	var here *growing // whose parts are read
	if len(m.nodes) > 0 {
		here = m.nodes[len(m.nodes)-1]
	}
	switch top {
	case "T":
		m.term(here, t, word)
	case "T..":
		if t.Kind == api.KComma {
			m.push("T T..")
			return
		}
		m.unless(t.Kind == api.KRight, api.ErrWord)
		m.nodes = m.nodes[:len(m.nodes)-1]
	case "PATH":
		m.unless(pathSaid(word), api.ErrWord)
		here.term.Text = word
	case "NAME":
		m.unless(nameSaid(word), api.ErrWord)
		here.term.Text = word
	case "N", "M":
		if m.unless(numberSaid(word, 0, 1<<31-1), api.ErrWord) {
			fmt.Sscan(word, map[string]*int{"N": &here.term.N, "M": &here.term.M}[top])
		}
	}
}

// term: the first token of a term.
func (m *machine) term(here *growing, t api.Token, word string) {
	g := &growing{}
	switch {
	case t.Kind == api.KLiteral:
		g.term = api.Term{Kind: api.TText, Text: t.Text}
	case kinds[word] != 0:
		g.term.Kind = kinds[word]
		m.push(behindWord[word])
	default:
		m.unless(false, api.ErrWord)
	}
	m.unless(len(m.nodes) < 64, api.ErrDeep)
	if here != nil {
		here.args = append(here.args, g)
	} else {
		m.tops = append(m.tops, g)
	}
	if t.Kind != api.KLiteral {
		m.nodes = append(m.nodes, g)
	}
}

// readTokens: what 12.1 tells of tokens.
func readTokens(l []api.Token) ([]api.Task, api.Errno, int) {
	m := machine{pile: []string{"line"}}
	line := 0
	for _, t := range l {
		m.read(t)
		for _, err := range worst {
			if slices.Contains(m.wrong, err) {
				return nil, err, t.Line
			}
		}
		if t.Kind != api.KEnd {
			line = t.Line
		}
	}
	if m.open {
		return nil, api.ErrNone, line
	}
	k := 0
	for _, t := range m.tasks {
		for i := range t.Out {
			t.Out[i].Term = m.tops[k].whole()
			k++
		}
	}
	return m.tasks, api.OK, 0
}

// readPlainly: what 12.1 tells of a text.
func readPlainly(text string) ([]api.Task, api.Errno, int) {
	l, err, line, _ := token.Tokens(text)
	if err != api.OK {
		return nil, err, line
	}
	return readTokens(l)
}

// writeTerm: a term as 12.2 writes it, if there is such a term; else any text.
func writeTerm(t api.Term) string {
	var args []string
	for _, a := range t.Args {
		args = append(args, writeTerm(a))
	}
	l := strings.Join(args, ",")
	switch t.Kind {
	case api.TText:
		return token.Quote(t.Text)
	case api.TLines:
		return fmt.Sprintf("lines(%s,%d,%d)", l, t.N, t.M)
	case api.TEach:
		return "each(" + t.Text + "," + l + ")"
	case api.TIn, api.TVar:
		l = t.Text
	}
	for word, kind := range kinds {
		if kind == t.Kind {
			return word + "(" + l + ")"
		}
	}
	return "?"
}

// writePlainly: tasks as 12.2 writes them, if a text says them; else any text.
func writePlainly(tasks []api.Task) string {
	var b strings.Builder
	for _, t := range tasks {
		fmt.Fprintf(&b, "task %s %d\n", t.Name, t.Budget)
		if len(t.In) > 0 {
			fmt.Fprintf(&b, "in %s\n", strings.Join(t.In, " "))
		}
		for _, o := range t.Out {
			fmt.Fprintf(&b, "out %s = %s\n", o.Path, writeTerm(o.Term))
		}
		b.WriteString("end\n")
	}
	return b.String()
}

// textPlainly: what 12.2 tells of tasks whose text is not too long: there is one just if what they are written as says them.
func textPlainly(tasks []api.Task) (string, api.Errno) {
	text := writePlainly(tasks)
	if back, err, _ := readPlainly(text); err != api.OK || !same(back, tasks) {
		return "", api.ErrTask
	}
	return text, api.OK
}

// same: whether tasks are the same; a nil list and an empty one are.
func same(a, b []api.Task) bool {
	return slices.EqualFunc(a, b, func(x, y api.Task) bool {
		return x.Name == y.Name && x.Budget == y.Budget && slices.Equal(x.In, y.In) && slices.EqualFunc(x.Out, y.Out, func(o, p api.Output) bool {
			return o.Path == p.Path && sameTerm(o.Term, p.Term)
		})
	})
}

func sameTerm(a, b api.Term) bool {
	return a.Kind == b.Kind && a.Text == b.Text && a.N == b.N && a.M == b.M && slices.EqualFunc(a.Args, b.Args, sameTerm)
}

// copied: the same tasks in other lists.
func copied(tasks []api.Task) []api.Task {
	l := slices.Clone(tasks)
	for i := range l {
		l[i].In = slices.Clone(l[i].In)
		l[i].Out = slices.Clone(l[i].Out)
		for k := range l[i].Out {
			l[i].Out[k].Term = copiedTerm(l[i].Out[k].Term)
		}
	}
	return l
}

func copiedTerm(t api.Term) api.Term {
	t.Args = slices.Clone(t.Args)
	for i := range t.Args {
		t.Args[i] = copiedTerm(t.Args[i])
	}
	return t
}

// names, paths: some of which lie under one another, or stand beside one that does.
var (
	someNames = []string{"a", "b", "task", "in", "out", "end", "cat", "0", "17", "a.b", "...", "_-", strings.Repeat("n", 64)}
	somePaths = []string{"a", "a/b", "a/b/c", "a.b", "a-b", "a/b.c", "ab", "b/a", "b/b", "b.b/a", "task", "in", "out/end", "9", "c/" + strings.Repeat("p", 64), "d", "d/e", "d.e", "e/f/g", "e/f-g", "x", "y", "z", "x.y", "u/v", "u/w"}
)

func one[T any](r *rand.Rand, l []T) T { return l[r.Intn(len(l))] }

// chanceBytes: some bytes, of which many must be written by an escape.
func chanceBytes(r *rand.Rand) string {
	b := make([]byte, r.Intn(6))
	for i := range b {
		b[i] = one(r, []byte("ab \"\\\n#=(),\x00\xff"))
	}
	return string(b)
}

// chanceTerm: a term that is right and not deeper than that.
func chanceTerm(r *rand.Rand, deep int) api.Term {
	t := api.Term{Kind: 1 + r.Intn(15)}
	if deep == 1 {
		t.Kind = 1 + r.Intn(3)
	}
	args := 1
	switch t.Kind {
	case api.TText:
		t.Text, args = chanceBytes(r), 0
	case api.TIn:
		t.Text, args = one(r, somePaths), 0
	case api.TVar:
		t.Text, args = one(r, someNames), 0
	case api.TCat:
		args = 1 + r.Intn(3)
	case api.TLines:
		t.N, t.M = one(r, []int{0, 1, 10, 1<<31 - 1}), r.Intn(1<<31)
	case api.TReplace, api.TIf:
		args = 3
	case api.TCount, api.TEach:
		args = 2
		if t.Kind == api.TEach {
			t.Text = one(r, someNames)
		}
	}
	for range args {
		t.Args = append(t.Args, chanceTerm(r, deep-1))
	}
	return t
}

// chanceTasks: tasks that are right, if they are right by chance: of their names and paths two may be that can't both be.
func chanceTasks(r *rand.Rand) []api.Task {
	var l []api.Task
	for range r.Intn(4) {
		t := api.Task{Name: one(r, someNames), Budget: one(r, []int{1, 9, 10, 1 << 20})}
		for range r.Intn(4) {
			t.In = append(t.In, one(r, somePaths))
		}
		for range 1 + r.Intn(3) {
			t.Out = append(t.Out, api.Output{Path: one(r, somePaths), Term: chanceTerm(r, 1+r.Intn(4))})
		}
		l = append(l, t)
	}
	return l
}

// rightTasks: tasks that a text says.
func rightTasks(r *rand.Rand) []api.Task {
	for {
		l := chanceTasks(r)
		if _, err := textPlainly(l); err == api.OK {
			return l
		}
	}
}
