package parse

import (
	"slices"
	"strconv"
	"strings"

	"kiln/api"
	"kiln/path"
	"kiln/token"
)

// sayable tells whether some text says just these tasks.
func sayable(tasks []api.Task) bool {
	if len(tasks) > api.MaxTasks {
		return false
	}
	var made apart
	for i, t := range tasks {
		if !path.Name(t.Name) || named(tasks[:i], t.Name) || !within(t.Budget, 1, api.MaxBudget) {
			return false
		}
		if !inputsFit(t.In) || !outputsFit(t.Out, &made) {
			return false
		}
	}
	return true
}

// inputsFit tells whether a task may have these inputs.
func inputsFit(l []string) bool {
	if len(l) > api.MaxIns {
		return false
	}
	for i, p := range l {
		if !isPath(p) || slices.Contains(l[:i], p) {
			return false
		}
	}
	return true
}

// outputsFit tells whether a task may have these outputs beside those made ahead, which they join.
func outputsFit(l []api.Output, made *apart) bool {
	if !within(len(l), 1, api.MaxOuts) {
		return false
	}
	for _, o := range l {
		if !isPath(o.Path) || !made.join(o.Path) || !termFits(o.Term, 1) {
			return false
		}
	}
	return true
}

// termFits tells whether a term can be, so deep.
func termFits(t api.Term, deep int) bool {
	if !within(t.Kind, api.TText, api.TFail) || deep > api.MaxDeep {
		return false
	}
	s := shapes[t.Kind]
	if !textFits(t.Text, s.text) || len(t.Args) < s.args || len(t.Args) > s.args && !s.more {
		return false
	}
	most := 0 // of a Kind that has no numbers
	if s.numbers {
		most = api.MaxNumber
	}
	if !within(t.N, 0, most) || !within(t.M, 0, most) {
		return false
	}
	for _, a := range t.Args {
		if !termFits(a, deep+1) {
			return false
		}
	}
	return true
}

// textFits tells whether a term's Text is what it must be.
func textFits(s string, must int) bool {
	switch must {
	case anyText:
		return true
	case pathText:
		return isPath(s)
	case nameText:
		return path.Name(s)
	}
	return s == ""
}

// writer writes tasks that are sayable. Not by token.Print: that refuses what is too long to be read again.
type writer struct{ strings.Builder }

// task writes the lines of a task.
func (w *writer) task(t api.Task) {
	w.line(taskWord, t.Name, strconv.Itoa(t.Budget))
	if len(t.In) > 0 {
		w.line(append([]string{inWord}, t.In...)...)
	}
	for _, o := range t.Out {
		w.WriteString(outWord + " " + o.Path + " = ")
		w.term(o.Term)
		w.WriteByte('\n')
	}
	w.line(endWord)
}

// line writes a line of words.
func (w *writer) line(words ...string) {
	w.WriteString(strings.Join(words, " "))
	w.WriteByte('\n')
}

// term writes a term.
func (w *writer) term(t api.Term) {
	if t.Kind == api.TText {
		w.WriteString(token.Quote(t.Text))
		return
	}
	s, mark := shapes[t.Kind], byte('(')
	part := func() {
		w.WriteByte(mark)
		mark = ','
	}
	w.WriteString(s.word)
	if s.text != noText {
		part()
		w.WriteString(t.Text)
	}
	for _, a := range t.Args {
		part()
		w.term(a)
	}
	if s.numbers {
		part()
		w.WriteString(strconv.Itoa(t.N))
		part()
		w.WriteString(strconv.Itoa(t.M))
	}
	w.WriteByte(')')
}
