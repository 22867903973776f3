package drill

import (
	"slices"
	"strconv"

	"kiln/api"
	"kiln/den"
	"kiln/disk"
	"kiln/engine"
)

// Lines that need no engine.

// format: a new disk, which is the drill's if all goes well.
func (x *Drill) format(words []word) string {
	d, err := disk.New(words[0].number)
	if err != api.OK {
		return refused(err)
	}
	if err := engine.Format(d, words[1].number); err != api.OK {
		return refused(err)
	}
	x.close()
	x.disk = d
	return told(api.OK)
}

// open: an engine anew.
func (x *Drill) open([]word) string {
	x.close()
	e, err := engine.Open(x.disk)
	if err != api.OK {
		return refused(err)
	}
	x.engine = e
	s := e.Stat()
	return told(api.OK, withHurt(s, strconv.Itoa(s.Gen), strconv.Itoa(s.Kept))...)
}

// source: a file more, or in the place of that path's.
func (x *Drill) source(words []word) string {
	f := api.File{Path: words[0].text, Data: []byte(words[1].text)}
	if at := x.find(f.Path); at >= 0 {
		x.files[at] = f
	} else {
		x.files = append(x.files, f)
	}
	return x.tellFiles()
}

// unsource: a file less.
func (x *Drill) unsource(words []word) string {
	at := x.find(words[0].text)
	if at < 0 {
		return refused(api.ErrAbsent)
	}
	x.files = slices.Delete(x.files, at, at+1)
	return x.tellFiles()
}

// find tells the place of a path's file in the source; below 0: there is none.
func (x *Drill) find(path string) int {
	return slices.IndexFunc(x.files, func(f api.File) bool { return f.Path == path })
}

// tellFiles is the answer of how many files the source has.
func (x *Drill) tellFiles() string {
	return told(api.OK, strconv.Itoa(len(x.files)))
}

// den: what a manifest means.
func (x *Drill) den(words []word) string {
	files, fault := den.Den(words[0].text, x.files)
	if fault.Err != api.OK {
		return faulty(fault)
	}
	var l []string
	for _, f := range files {
		l = append(l, sized(f.Path, len(f.Data)))
	}
	return told(api.OK, l...)
}

// crash: power fails.
func (x *Drill) crash(words []word) string {
	var fates []int
	for _, w := range words {
		fates = append(fates, w.number)
	}
	x.close()
	x.disk.Crash(fates...)
	return told(api.OK)
}

// turn: a bit is turned over.
func (x *Drill) turn(words []word) string {
	return told(x.disk.Turn(words[0].number, words[1].number))
}
