package den

import "kiln/api"

// Tally is what outputs there are so far.
type Tally struct {
	there paths
	bytes int
}

// NewTally is one of none.
func NewTally() *Tally {
	return &Tally{there: paths{}}
}

// Add lets an output of n bytes join, or tells why it makes no tree.
func (t *Tally) Add(path string, n int) api.Errno {
	if !isPath(path) {
		return api.ErrPath
	}
	// By what is left: a sum might wrap round.
	if n < 0 || n > api.MaxTotal-t.bytes || !t.there.fits(path) || t.there.full(path) {
		return api.ErrTree
	}
	t.there.join(path)
	t.bytes += n
	return api.OK
}

// Bytes tells how many bytes all have together.
func (t *Tally) Bytes() int {
	return t.bytes
}
