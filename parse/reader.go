package parse

import (
	"slices"
	"strconv"

	"kiln/api"
	"kiln/path"
)

// fault is what ends a reading: why, and the line of the token that can't be.
type fault struct {
	err  api.Errno
	line int
}

// reader goes from token to token, by a method for each thing of the language.
type reader struct {
	tokens []api.Token
	at     int // the next one
	line   int // of the one taken last
	tasks  []api.Task
	made   apart // the outputs of all tasks so far
}

// manifest reads all tasks.
func (r *reader) manifest() []api.Task {
	for r.more() {
		r.tasks = append(r.tasks, r.task())
	}
	return r.tasks
}

// task reads a task, from its first line on.
func (r *reader) task() api.Task {
	r.demand(r.word() == taskWord, api.ErrWord)
	r.demand(len(r.tasks) < api.MaxTasks, api.ErrCount)
	t := api.Task{Name: r.name()}
	r.demand(!named(r.tasks, t.Name), api.ErrTwice)
	t.Budget = r.number(1, api.MaxBudget)
	r.sign(api.KEnd)
	word := r.begin()
	if word == inWord {
		t.In = r.inputs()
		word = r.begin()
	}
	for word == outWord {
		r.demand(len(t.Out) < api.MaxOuts, api.ErrCount)
		t.Out = append(t.Out, r.output())
		word = r.begin()
	}
	r.demand(word == endWord, api.ErrWord)
	r.demand(len(t.Out) > 0, api.ErrNone)
	r.sign(api.KEnd)
	return t
}

// begin reads the first word of the next line of a task.
func (r *reader) begin() string {
	r.demand(r.more(), api.ErrNone)
	return r.word()
}

// inputs reads what stands behind the word in.
func (r *reader) inputs() []string {
	l := []string{r.path()}
	for !r.stands(api.KEnd) {
		p := r.path()
		r.demand(len(l) < api.MaxIns, api.ErrCount)
		r.demand(!slices.Contains(l, p), api.ErrIn)
		l = append(l, p)
	}
	r.sign(api.KEnd)
	return l
}

// output reads what stands behind the word out.
func (r *reader) output() api.Output {
	p := r.path()
	r.demand(r.made.join(p), api.ErrOut)
	r.sign(api.KEqual)
	t := r.term(1)
	r.sign(api.KEnd)
	return api.Output{Path: p, Term: t}
}

// term reads a term; deep: which one it is, from the outermost on, of those nested in one another.
func (r *reader) term(deep int) api.Term {
	first := r.next()
	t := api.Term{Kind: kindOf(first)}
	r.demand(t.Kind != noKind, api.ErrWord)
	r.demand(deep <= api.MaxDeep, api.ErrDeep)
	if t.Kind == api.TText {
		t.Text = first.Text
		return t
	}
	s, mark := shapes[t.Kind], api.KLeft
	part := func() {
		r.sign(mark)
		mark = api.KComma
	}
	switch s.text {
	case pathText:
		part()
		t.Text = r.path()
	case nameText:
		part()
		t.Text = r.name()
	}
	for len(t.Args) < s.args || s.more && r.stands(api.KComma) {
		part()
		t.Args = append(t.Args, r.term(deep+1))
	}
	if s.numbers {
		part()
		t.N = r.number(0, api.MaxNumber)
		part()
		t.M = r.number(0, api.MaxNumber)
	}
	r.sign(api.KRight)
	return t
}

// name reads a name.
func (r *reader) name() string {
	s := r.word()
	r.demand(path.Name(s), api.ErrWord)
	return s
}

// path reads a path.
func (r *reader) path() string {
	s := r.word()
	r.demand(isPath(s), api.ErrWord)
	return s
}

// number reads a number that has these bounds.
func (r *reader) number(least, most int) int {
	s := r.word()
	n, err := strconv.Atoi(s)
	// Atoi takes more than the one form.
	r.demand(err == nil && strconv.Itoa(n) == s && within(n, least, most), api.ErrWord)
	return n
}

// word reads a word.
func (r *reader) word() string {
	t := r.next()
	r.demand(t.Kind == api.KWord, api.ErrWord)
	return t.Text
}

// sign reads a token that has no text.
func (r *reader) sign(kind int) {
	r.demand(r.next().Kind == kind, api.ErrWord)
}

// next takes a token. There always is one: a line's last is its end, and behind that nobody goes on but by more.
func (r *reader) next() api.Token {
	t := r.tokens[r.at]
	r.at++
	r.line = t.Line
	return t
}

// stands tells whether the next token of the line is of this kind.
func (r *reader) stands(kind int) bool {
	return r.tokens[r.at].Kind == kind
}

// more goes on to the next line that is not blank, and tells whether there is one. It takes no token: a task that lacks its end is told on the last line that says something.
func (r *reader) more() bool {
	for r.at < len(r.tokens) && r.stands(api.KEnd) {
		r.at++
	}
	return r.at < len(r.tokens)
}

// demand ends the reading at the token taken last, unless it holds.
func (r *reader) demand(holds bool, err api.Errno) {
	if !holds {
		panic(fault{err, r.line})
	}
}
