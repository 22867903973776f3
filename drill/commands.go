package drill

import (
	"slices"

	"kiln/api"
)

// command is what a line is by its first word: which words fit behind that, what it needs, and what it does.
type command struct {
	fits  func(words []word) bool
	needs func(x *Drill) api.Errno
	does  func(x *Drill, words []word) string
}

// commandOf is the command of a line; false: there is none, or its words do not fit.
func commandOf(words []word) (command, bool) {
	if words[0].kind != aCommand {
		return command{}, false
	}
	c, ok := commands()[words[0].text]
	return c, ok && c.fits(words[1:])
}

// commands are all that there are, by their first words.
func commands() map[string]command {
	return map[string]command{
		"format":   {of(aNumber, aNumber), (*Drill).needNothing, (*Drill).format},
		"open":     {of(), (*Drill).needDisk, (*Drill).open},
		"source":   {of(aLiteral, aLiteral), (*Drill).needNothing, (*Drill).source},
		"unsource": {of(aLiteral), (*Drill).needNothing, (*Drill).unsource},
		"den":      {of(aLiteral), (*Drill).needNothing, (*Drill).den},
		"crash":    {numbers, (*Drill).needDisk, (*Drill).crash},
		"turn":     {of(aNumber, aNumber), (*Drill).needDisk, (*Drill).turn},
		"build":    {of(aLiteral), (*Drill).needEngine, (*Drill).build},
		"step":     {of(aNumber), (*Drill).needEngine, (*Drill).step},
		"run":      {of(), (*Drill).needEngine, (*Drill).run},
		"cancel":   {of(), (*Drill).needEngine, (*Drill).cancel},
		"pin":      {of(), (*Drill).needEngine, (*Drill).pin},
		"unpin":    {of(aNumber), (*Drill).needEngine, (*Drill).unpin},
		"read":     {of(aNumber, aLiteral), (*Drill).needEngine, (*Drill).read},
		"list":     {of(aNumber, aLiteral), (*Drill).needEngine, (*Drill).list},
		"reading":  {of(aNumber, aLiteral), (*Drill).needEngine, (*Drill).reading},
		"more":     {of(aNumber), (*Drill).needReading, (*Drill).more},
		"scavenge": {of(), (*Drill).needEngine, (*Drill).scavenge},
		"sweep":    {of(aNumber), (*Drill).needEngine, (*Drill).sweep},
		"check":    {of(), (*Drill).needEngine, (*Drill).check},
		"stat":     {of(), (*Drill).needEngine, (*Drill).stat},
	}
}

// of makes a function that tells whether words are of just these kinds.
func of(kinds ...kind) func(words []word) bool {
	return func(words []word) bool {
		return slices.EqualFunc(words, kinds, func(w word, k kind) bool { return w.kind == k })
	}
}

// numbers tells whether all words are numbers, however many they are.
func numbers(words []word) bool {
	return !slices.ContainsFunc(words, func(w word) bool { return w.kind != aNumber })
}

// needNothing: nothing is needed.
func (x *Drill) needNothing() api.Errno {
	return api.OK
}

// needDisk: a disk is needed.
func (x *Drill) needDisk() api.Errno {
	if x.disk == nil {
		return api.ErrNothing
	}
	return api.OK
}

// needEngine: an engine is needed.
func (x *Drill) needEngine() api.Errno {
	if x.engine == nil {
		return api.ErrClosed
	}
	return api.OK
}

// needReading: a reading is needed, and so an engine.
func (x *Drill) needReading() api.Errno {
	if err := x.needEngine(); err != api.OK {
		return err
	}
	if x.reader == nil {
		return api.ErrNothing
	}
	return api.OK
}
