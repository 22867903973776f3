package drill

import (
	"strconv"
	"strings"
)

// digits of a \x, and of a key, by their numbers.
const digits = "0123456789abcdef"

// kind of a word.
type kind int

// The kinds.
const (
	aCommand kind = iota
	aNumber
	aLiteral
)

// word of a line.
type word struct {
	kind   kind
	text   string // a command's letters, a literal's bytes
	number int
}

// cut cuts a line into its words; false: something stands there that is none.
func cut(line string) ([]word, bool) {
	var words []word
	for _, piece := range pieces(line) {
		w, ok := wordOf(piece)
		if !ok {
			return nil, false
		}
		words = append(words, w)
	}
	return words, true
}

// Where pieces stands.
const (
	outside = iota // where a word might begin
	inside         // in a word
	quoted         // in a literal
	escaped        // in a literal, behind a \
)

// pieces are what blanks and tabs part, those in literals aside, up to a remark. What is glued to a literal is of its piece: so it is no word.
func pieces(line string) []string {
	var l []string
	from, state := 0, outside
	for i, r := range line {
		switch state {
		case outside:
			from = i
			switch r {
			case ' ', '\t':
			case '#':
				return l
			case '"':
				state = quoted
			default:
				state = inside
			}
		case inside:
			if r == ' ' || r == '\t' {
				l = append(l, line[from:i])
				state = outside
			}
		case quoted:
			switch r {
			case '"':
				state = inside
			case '\\':
				state = escaped
			}
		case escaped:
			state = quoted
		}
	}
	if state != outside {
		l = append(l, line[from:])
	}
	return l
}

// wordOf is the word that a piece is; false: it is none.
func wordOf(piece string) (word, bool) {
	switch c := piece[0]; {
	case c == '"':
		text, ok := unquote(piece)
		return word{kind: aLiteral, text: text}, ok
	case c == '-', '0' <= c && c <= '9':
		n, err := strconv.Atoi(piece)
		// Atoi takes more than the one form.
		return word{kind: aNumber, number: n}, err == nil && strconv.Itoa(n) == piece
	}
	other := func(r rune) bool { return r < 'a' || r > 'z' }
	return word{kind: aCommand, text: piece}, !strings.ContainsFunc(piece, other)
}

// unquote tells the bytes that a literal says; false: it is none. Its first byte is a ".
func unquote(literal string) (string, bool) {
	rest, closed := strings.CutSuffix(literal[1:], `"`)
	if !closed {
		return "", false
	}
	var said strings.Builder
	for more := true; more; {
		var plain string
		plain, rest, more = strings.Cut(rest, `\`)
		if !standForThemselves(plain) {
			return "", false
		}
		said.WriteString(plain)
		if more {
			one, size := escape(rest)
			if size == 0 {
				return "", false
			}
			said.WriteByte(one)
			rest = rest[size:]
		}
	}
	return said.String(), true
}

// standForThemselves tells whether bytes of a literal, none of which is a \, all do so.
func standForThemselves(s string) bool {
	return !strings.ContainsFunc(s, func(r rune) bool { return r == '"' || r < ' ' })
}

// escape tells the byte that is said by what stands behind a \, and how many bytes of it say that: none, if they say no byte.
func escape(s string) (byte, int) {
	switch {
	case s == "":
		return 0, 0
	case s[0] == '"', s[0] == '\\':
		return s[0], 1
	case s[0] == 'n':
		return '\n', 1
	case s[0] == 'x' && len(s) > 2:
		high, low := strings.IndexByte(digits, s[1]), strings.IndexByte(digits, s[2])
		if high >= 0 && low >= 0 {
			return byte(high<<4 | low), 3
		}
	}
	return 0, 0
}
