package term

import (
	"strconv"
	"strings"

	"kiln/api"
	"kiln/sha"
)

// stepSize: how many bytes of a value cost a step.
const stepSize = 64

// fault is what ends a run deep inside.
type fault struct{ err api.Errno }

// demand ends the run, unless it holds.
func demand(holds bool, err api.Errno) {
	if !holds {
		panic(fault{err})
	}
}

// demandLength ends the run, if so many bytes are too many for a value.
func demandLength(n int) {
	demand(n <= api.MaxFile, api.ErrValue)
}

// meaning is what a name stands for; the zero one: nothing.
type meaning struct {
	bound bool
	text  string
}

// runner walks a term. Values are strings, not lists: many of them are pieces of one another, and nobody can write over those.
type runner struct {
	ins    []api.File
	places map[string]int     // by a path: of its first file in ins
	names  map[string]meaning // where the walk stands now
	budget int
	taken  int // steps so far
}

// newRunner is a runner that has taken no step.
func newRunner(ins []api.File, budget int) *runner {
	r := &runner{ins: ins, places: map[string]int{}, names: map[string]meaning{}, budget: budget}
	for i := len(ins) - 1; i >= 0; i-- { // backwards, so that the first of several with one path stays
		r.places[ins[i].Path] = i
	}
	return r
}

// take takes steps.
func (r *runner) take(steps int) {
	demand(steps <= r.budget-r.taken, api.ErrBudget)
	r.taken += steps
}

// dataOf is the bytes of the file that has a path.
func (r *runner) dataOf(path string) []byte {
	place, ok := r.places[path]
	demand(ok, api.ErrUnknown)
	return r.ins[place].Data
}

// textOf is what a name stands for.
func (r *runner) textOf(name string) string {
	m := r.names[name]
	demand(m.bound, api.ErrUnknown)
	return m.text
}

// value runs a term.
func (r *runner) value(t *api.Term) string {
	r.take(1)
	v, looked := r.walk(r.nodeOf(t))
	demandLength(len(v))
	r.take(looked + begun(v))
	return v
}

// walk runs the arguments of a node and makes its value of theirs. looked: how many steps the values cost that it looks at.
func (r *runner) walk(n node) (v string, looked int) {
	switch n := n.(type) {
	case text:
		return n.bytes, 0
	case input:
		demandLength(len(n.data)) // ahead of the copy
		return string(n.data), 0
	case variable:
		return n.text, 0
	case cat:
		return r.joined(n.parts), 0
	case choice:
		if r.value(n.a) != "" {
			return r.value(n.b), 0
		}
		return r.value(n.c), 0
	case each:
		return r.overLines(n, r.value(n.a)), 0
	case fail:
		r.value(n.a)
		panic(fault{api.ErrFailed})
	default:
		return r.look(n)
	}
}

// look walks the nodes that look at values. (By itself, for walk stands on the stack once for each term in which another one is nested.)
func (r *runner) look(n node) (v string, looked int) {
	switch n := n.(type) {
	case upper:
		a := r.value(n.a)
		return otherCase(a, 'a', 'z'), begun(a)
	case lower:
		a := r.value(n.a)
		return otherCase(a, 'A', 'Z'), begun(a)
	case lines:
		a := r.value(n.a)
		return linesOf(a, n.from, n.to), begun(a)
	case sort:
		a := r.value(n.a)
		return sorted(a), begun(a)
	case uniq:
		a := r.value(n.a)
		return unlike(a), begun(a)
	case replace:
		a, b, c := r.value(n.a), r.value(n.b), r.value(n.c)
		return replaced(a, b, c), begun(a) + begun(b)
	case count:
		a, b := r.value(n.a), r.value(n.b)
		return strconv.Itoa(counted(a, b)), begun(a) + begun(b)
	case key:
		a := r.value(n.a)
		return digitsOf(sha.Sum([]byte(a))), begun(a)
	}
	return "", 0 // no node comes here
}

// joined runs terms from the left, and lays their values one behind the other.
func (r *runner) joined(parts []api.Term) string {
	var all strings.Builder
	for i := range parts {
		lay(&all, r.value(&parts[i]))
	}
	return all.String()
}

// overLines runs the t of a node for each line of a, and lays the values one behind the other.
func (r *runner) overLines(n each, a string) string {
	outer := r.names[n.name]
	var all strings.Builder
	for line := range textsOf(a) {
		r.names[n.name] = meaning{bound: true, text: line}
		lay(&all, r.value(n.t))
	}
	r.names[n.name] = outer // also where that is nothing
	return all.String()
}

// lay puts a value behind others, if they are not too long together.
func lay(all *strings.Builder, v string) {
	demandLength(all.Len() + len(v))
	all.WriteString(v)
}

// begun is how many steps a value costs: one for each stepSize bytes, begun ones too.
func begun(v string) int {
	return (len(v) + stepSize - 1) / stepSize
}
