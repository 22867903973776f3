package engine

import (
	"bytes"
	"slices"
	"strings"

	"kiln/api"
	"kiln/den"
)

// build is what the phases of a build share.
type build struct {
	course
	pen
	bench
	manifest string
	src      []api.File
	tasks    []api.Task
	left     []int // the places of the tasks that are not begun, in the graph's order
	tally    *den.Tally
	outs     []output // of the tasks that are done
	memo     memo     // of these
	needs    map[int]struct{}
	first    int // the number of its first record
	marked   bool
	own      []api.Ref // the chains that it wrote, each used once for it
	used     []api.Ref // those of others, likewise
}

// output is a file of the new tree.
type output struct {
	path string
	ref  api.Ref
}

// Begin begins a build; beside ErrSource the place in the list.
func (e *Engine) Begin(manifest string, src []api.File) (int, api.Errno) {
	if e.build != nil {
		return 0, api.ErrBusy
	}
	if e.hurt() {
		return 0, api.ErrHurt
	}
	if place, err := den.Source(src); err != api.OK {
		return place, err
	}
	b := &build{
		course:   course{engine: e, counts: lastingActs},
		manifest: strings.Clone(manifest),
		src:      copied(src),
		tally:    den.NewTally(),
		memo:     memo{},
		needs:    map[int]struct{}{},
		first:    none,
	}
	b.phase = planning{b}
	e.build = b
	return 0, api.OK
}

// copied is a source in memory of its own.
func copied(src []api.File) []api.File {
	l := make([]api.File, len(src))
	for i, f := range src {
		l[i] = api.File{Path: strings.Clone(f.Path), Data: bytes.Clone(f.Data)}
	}
	return l
}

// lastingActs: of a build Reads do not count.
func lastingActs(a api.Acts) int {
	return a.Writes + a.Flushes
}

// Step lets the build go up to and with its n-th Write or Flush from here.
func (e *Engine) Step(n int) (api.Progress, api.Errno) {
	b := e.build
	if b == nil {
		return api.Progress{}, api.ErrOver
	}
	if n < 1 {
		return api.Progress{}, api.ErrSteps
	}
	defer b.letGo()
	return b.run(n), api.OK
}

// Cancel marks the build: its next Step ends it.
func (e *Engine) Cancel() api.Errno {
	b := e.build
	if b == nil {
		return api.ErrOver
	}
	if e.slot.Gen > e.current.number {
		return api.ErrLate // that slot is written, and not yet answered
	}
	if !b.marked {
		b.marked = true
		b.phase = cancelled{build: b, was: b.phase}
	}
	return api.OK
}

// cancelled is the phase of a build that is marked: it ends, behind the Flush of a root that it has written.
type cancelled struct {
	*build
	was phase
}

func (p cancelled) next() phase {
	if p.has() {
		p.was.next()
	}
	return p.fail(api.ErrCancelled)
}

// letGo lets go of what a build that has ended still holds. What it wrote goes last: it may have used it since, and the last use must be undone for the sectors to be free at once. (What is staged has a use more, of the result that is kept.)
func (b *build) letGo() {
	if !b.ended {
		return
	}
	b.engine.build = nil
	b.leave()
	b.engine.drop(b.used)
	for _, ref := range slices.Backward(b.own) {
		b.engine.store.Undo(ref)
	}
}

// hold keeps in mind a use of a chain that this build has in the store.
func (b *build) hold(ref api.Ref, wrote bool) {
	if wrote {
		b.own = append(b.own, ref)
	} else {
		b.used = append(b.used, ref)
	}
}

// held takes over all uses that this build has.
func (b *build) held() []api.Ref {
	all := append(b.used, b.own...)
	b.used, b.own = nil, nil
	return all
}

// staged tells whether this build has written a record.
func (b *build) staged() bool {
	return b.first != none
}

// binds tells whether this build has staged or uses the kept result of a record.
func (b *build) binds(number int) bool {
	_, ok := b.needs[number]
	return ok
}

// stage keeps the result of a task, whose record has just been written, in the place of an older one.
func (b *build) stage(record api.Record) {
	e := b.engine
	for _, ref := range record.Refs {
		e.store.Use(ref)
	}
	if older, ok := e.kept.find(record.Print); ok {
		e.forget(older)
	}
	e.kept.put(record)
	b.needs[record.Num] = struct{}{}
	if !b.staged() {
		b.first = record.Num
	}
}
