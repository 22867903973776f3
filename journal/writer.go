package journal

import "kiln/api"

// allActs: a record's Write and its Flush.
const allActs = 2

// stand is where a writer stands.
type stand struct {
	acts int       // done so far
	err  api.Errno // why it has ended ahead of all acts
}

// written tells whether the record is.
func (s *stand) written() bool {
	return s.acts > 0
}

// ended tells whether no act is left.
func (s *stand) ended() bool {
	return s.err != api.OK || s.acts == allActs
}

// Writer writes one record: one act a step.
type Writer struct {
	stand
	journal *Journal
	num     int // once the record is written
	print   api.Key
	refs    []api.Ref
}

// Step does one act, the Write or the Flush, and tells whether that was the last.
func (w *Writer) Step() (bool, api.Errno) {
	if !w.ended() {
		w.act()
	}
	return w.ended(), w.err
}

// Num is the record's number.
func (w *Writer) Num() int {
	if w.written() {
		return w.num
	}
	return w.journal.Next()
}

// act does the next act, if there is room for the record.
func (w *Writer) act() {
	if w.written() {
		w.journal.disk.Flush()
		w.acts++
		return
	}
	// Another writer, or Move, may have come between Add and here.
	if w.err = w.journal.room(); w.err != api.OK {
		return
	}
	w.num = w.journal.write(w.print, w.refs)
	w.acts++
}
