package token

import (
	"strings"

	"kiln/api"
)

// reader goes through a text, by one token a method. At something that can't be it says why, and stands at the place that is told of it.
type reader struct {
	text   string
	at     int // where it stands
	start  int // the first byte of the line
	behind int // behind the last byte of the line's last token; start, if it has none
	line   int
	tokens []api.Token
	wrong  api.Errno
}

// all reads the whole text, and tells whether it could.
func (r *reader) all() bool {
reading:
	for r.more() {
		r.pass()
		switch kind := kindOf(r.look(0)); kind {
		case api.KWord:
			if !r.word() {
				break reading
			}
		case api.KLiteral:
			if !r.literal() {
				break reading
			}
		case api.KEnd:
			r.end()
		case noKind:
			r.wrong = api.ErrByte
			break reading
		default:
			r.sign(kind)
		}
	}
	return r.wrong == api.OK
}

// more tells whether a token is left: a line that has a byte has its end, also where the text ends ahead of a 0a.
func (r *reader) more() bool {
	return r.start < len(r.text)
}

// look is the byte so far behind the one where it stands. Behind the text lines end, so that nobody has to ask where that is.
func (r *reader) look(ahead int) byte {
	if r.at+ahead < len(r.text) {
		return r.text[r.at+ahead]
	}
	return '\n'
}

// pass goes on to where a token must begin.
func (r *reader) pass() {
	for r.look(0) == ' ' {
		r.at++
	}
	if r.look(0) != '#' {
		return
	}
	for r.look(0) != '\n' {
		r.at++
	}
}

// word reads a word.
func (r *reader) word() bool {
	from := r.at
	for kindOf(r.look(0)) == api.KWord {
		if r.at-from == api.MaxPath {
			r.wrong = api.ErrLong
			return false
		}
		r.at++
	}
	// A piece of the text itself would keep all of it in memory.
	r.add(api.KWord, strings.Clone(r.text[from:r.at]), from)
	return true
}

// literal reads a literal.
func (r *reader) literal() bool {
	from := r.at
	var said []byte
	r.at++
reading:
	for {
		switch c := r.look(0); {
		case c == '"':
			r.at++
			r.add(api.KLiteral, string(said), from)
			return true
		case c == '\\':
			one, size := r.escape()
			if size == 0 {
				r.wrong = api.ErrEscape
				break reading
			}
			said = append(said, one)
			r.at += size
		case c == '\n':
			r.wrong, r.at = api.ErrOpen, from
			break reading
		case !standsForItself(c):
			r.wrong = api.ErrByte
			break reading
		default:
			said = append(said, c)
			r.at++
		}
	}
	return false
}

// escape tells the byte that the escape says at which it stands, and of how many bytes that is: of none, if it says no byte.
func (r *reader) escape() (byte, int) {
	switch c := r.look(1); c {
	case '"', '\\':
		return c, 2
	case 'n':
		return '\n', 2
	case 'x':
		high, low := digit(r.look(2)), digit(r.look(3))
		if high >= 0 && low >= 0 {
			return byte(high<<4 | low), 4
		}
	}
	return 0, 0
}

// sign reads a token of one byte.
func (r *reader) sign(kind int) {
	r.at++
	r.add(kind, "", r.at-1)
}

// end reads a line's end, and goes on to the next line.
func (r *reader) end() {
	r.add(api.KEnd, "", r.behind)
	r.at = min(r.at+1, len(r.text))
	r.start, r.behind = r.at, r.at
	r.line++
}

// add adds the token behind which it stands.
func (r *reader) add(kind int, text string, from int) {
	r.tokens = append(r.tokens, api.Token{Kind: kind, Text: text, Line: r.line, Place: from - r.start})
	r.behind = r.at
}
