package drill

import (
	"strconv"

	"kiln/api"
)

// Lines that need an engine.

// build: a build begins.
func (x *Drill) build(words []word) string {
	place, err := x.engine.Begin(words[0].text, x.files)
	if err == api.ErrSource {
		return refused(err, strconv.Itoa(place))
	}
	return told(err)
}

// step: so many acts of the build.
func (x *Drill) step(words []word) string {
	p, err := x.engine.Step(words[0].number)
	return told(err, built(p)...)
}

// run: the build, act by act, as far as it goes by itself.
func (x *Drill) run([]word) string {
	p, err := x.engine.Step(1)
	if err != api.OK {
		return refused(err)
	}
	acts := p.Acts
	for err == api.OK && !p.Ended && !p.Waits {
		p, err = x.engine.Step(1)
		acts += p.Acts
	}
	p.Acts = acts
	return told(api.OK, built(p)...)
}

// cancel: the build is to end.
func (x *Drill) cancel([]word) string {
	return told(x.engine.Cancel())
}

// pin: the current generation is pinned.
func (x *Drill) pin([]word) string {
	pin, gen, err := x.engine.Pin()
	return told(err, strconv.Itoa(pin), strconv.Itoa(gen))
}

// unpin: a pin is let go of.
func (x *Drill) unpin(words []word) string {
	return told(x.engine.Unpin(words[0].number))
}

// read: a file of a pinned tree.
func (x *Drill) read(words []word) string {
	b, err := x.engine.Read(words[0].number, words[1].text)
	return told(err, quote(string(b)))
}

// list: a directory of a pinned tree.
func (x *Drill) list(words []word) string {
	listing, err := x.engine.List(words[0].number, words[1].text)
	var l []string
	for _, e := range listing {
		if e.Dir {
			l = append(l, e.Name+"/")
		} else {
			l = append(l, sized(e.Name, e.Len))
		}
	}
	return told(err, l...)
}

// reading: a read that goes on by more.
func (x *Drill) reading(words []word) string {
	r, err := x.engine.Reading(words[0].number, words[1].text)
	if err == api.OK {
		x.reader = r
	}
	return told(err)
}

// more: so many Reads of the reading.
func (x *Drill) more(words []word) string {
	b, ended, err := x.reader.More(words[0].number)
	switch {
	case err == api.ErrSteps:
		return refused(err)
	case err == api.OK && !ended:
		return told(err, "going")
	}
	x.reader = nil
	return told(err, quote(string(b)))
}

// scavenge: a scavenging begins.
func (x *Drill) scavenge([]word) string {
	return told(x.engine.Scavenge())
}

// sweep: so many acts of the scavenging.
func (x *Drill) sweep(words []word) string {
	p, err := x.engine.Sweep(words[0].number)
	return told(err, wentOn(p)...)
}

// check: what is held is read.
func (x *Drill) check([]word) string {
	return told(api.OK, strconv.Itoa(x.engine.Check()))
}

// stat: how the engine is.
func (x *Drill) stat([]word) string {
	s := x.engine.Stat()
	var l []string
	for _, n := range []int{s.Gen, s.Turn, s.Runs, s.Held, s.Spent, s.Free, s.Pins, s.Kept, s.Records} {
		l = append(l, strconv.Itoa(n))
	}
	l = append(l, hex(s.Key[:]...))
	return told(api.OK, withHurt(s, l...)...)
}

// withHurt are the words that tell how an engine is, with one more if it is hurt.
func withHurt(s api.Stat, words ...string) []string {
	if s.Hurt {
		return append(words, "hurt")
	}
	return words
}
