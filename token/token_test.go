package token

import (
	"fmt"
	"math/rand"
	"slices"
	"strings"
	"testing"

	"kiln/api"
)

// tok: a token of the line 1.
func tok(kind int, text string, place int) api.Token {
	return api.Token{Kind: kind, Text: text, Line: 1, Place: place}
}

// on: these tokens, on that line.
func on(line int, l ...api.Token) []api.Token {
	for i := range l {
		l[i].Line = line
	}
	return l
}

// shown: tokens as far as a message can show them.
func shown(l []api.Token) string {
	s := fmt.Sprintf("%d tokens: %#v", len(l), l[:min(len(l), 20)])
	return s[:min(len(s), 1000)]
}

func wantTokens(t *testing.T, text string, want ...api.Token) {
	t.Helper()
	l, err, line, place := Tokens(text)
	if err != api.OK || line != 0 || place != 0 || !slices.Equal(l, want) {
		t.Fatalf("Tokens(%.200q) = %s, %d, %d, %d, want %s, OK, 0, 0", text, shown(l), err, line, place, shown(want))
	}
}

func wantWrong(t *testing.T, text string, want api.Errno, wantLine, wantPlace int) {
	t.Helper()
	l, err, line, place := Tokens(text)
	if err != want || line != wantLine || place != wantPlace || len(l) != 0 {
		t.Fatalf("Tokens(%.200q) = %s, %d, %d, %d, want none, %d, %d, %d", text, shown(l), err, line, place, want, wantLine, wantPlace)
	}
}

// wantAsRead: Tokens tells of a text what a plain reading of the chapter does.
func wantAsRead(t *testing.T, text string) {
	t.Helper()
	l, err, line, place := readPlainly(text)
	if err == api.OK {
		wantTokens(t, text, l...)
		return
	}
	wantWrong(t, text, err, line, place)
}

func wantPrint(t *testing.T, want string, l ...api.Token) {
	t.Helper()
	if s, err := Print(l); err != api.OK || s != want {
		t.Fatalf("Print(%s) = %.200q, %d, want %.200q, OK", shown(l), s, err, want)
	}
}

func wantNoPrint(t *testing.T, want api.Errno, l ...api.Token) {
	t.Helper()
	if s, err := Print(l); err != want || s != "" {
		t.Fatalf("Print(%s) = %.200q, %d, want nothing, %d", shown(l), s, err, want)
	}
}

// word, literal, sign: tokens with no line and no place.
func word(s string) api.Token    { return api.Token{Kind: api.KWord, Text: s} }
func literal(s string) api.Token { return api.Token{Kind: api.KLiteral, Text: s} }
func sign(kind int) api.Token    { return api.Token{Kind: kind} }

var lineEnd = sign(api.KEnd)

// The chapter's examples.
func TestExamples(t *testing.T) {
	wantTokens(t, "")
	wantTokens(t, "a", tok(api.KWord, "a", 0), tok(api.KEnd, "", 1))
	wantTokens(t, "a\n", tok(api.KWord, "a", 0), tok(api.KEnd, "", 1))
	wantTokens(t, " a  # b", tok(api.KWord, "a", 1), tok(api.KEnd, "", 2))
	wantTokens(t, "\n\n", slices.Concat(on(1, tok(api.KEnd, "", 0)), on(2, tok(api.KEnd, "", 0)))...)
	wantTokens(t, `out a/b = cat("x\n",in(c))`,
		tok(api.KWord, "out", 0), tok(api.KWord, "a/b", 4), tok(api.KEqual, "", 8), tok(api.KWord, "cat", 10), tok(api.KLeft, "", 13),
		tok(api.KLiteral, "x\n", 14), tok(api.KComma, "", 19), tok(api.KWord, "in", 20), tok(api.KLeft, "", 22), tok(api.KWord, "c", 23),
		tok(api.KRight, "", 24), tok(api.KRight, "", 25), tok(api.KEnd, "", 26))
	wantWrong(t, "a+b", api.ErrByte, 1, 1)
	wantWrong(t, "a\né", api.ErrByte, 2, 0)
	wantWrong(t, `"abc`, api.ErrOpen, 1, 0)
	wantWrong(t, `"a\q"`, api.ErrEscape, 1, 2)
	wantWrong(t, `"a\x0G"`, api.ErrEscape, 1, 2)
	wantWrong(t, `"a\`, api.ErrEscape, 1, 2)
	wantWrong(t, "\"a\t\"", api.ErrByte, 1, 2)
	wantWrong(t, strings.Repeat("a", 256), api.ErrLong, 1, 255)
	wantWrong(t, strings.Repeat("a", 65537), api.ErrLong, 0, 0)

	for s, want := range map[string]string{"": `""`, `a"b\`: `"a\"b\\"`, "\n\x00\xff": `"\n\x00\xff"`} {
		if q := Quote(s); q != want {
			t.Fatalf("Quote(%q) = %s, want %s", s, q, want)
		}
	}
	wantPrint(t, "out a = in(b)\n", word("out"), word("a"), sign(api.KEqual), word("in"), sign(api.KLeft), word("b"), sign(api.KRight), lineEnd)
	wantPrint(t, "")
	wantPrint(t, "\n", lineEnd)
	wantNoPrint(t, api.ErrArg, word("a"))
	wantPrint(t, "a\nb = \"c\"\n", word("a"), lineEnd, word("b"), sign(api.KEqual), literal("c"), lineEnd)
	wantNoPrint(t, api.ErrArg, word("a b"), lineEnd)
}

// 11.1: a line ends with its 0a, or with the text, if it has a byte.
func TestLines(t *testing.T) {
	a := []api.Token{tok(api.KWord, "a", 0), tok(api.KEnd, "", 1)}
	empty := []api.Token{tok(api.KEnd, "", 0)}
	lines := func(l ...[]api.Token) []api.Token {
		var all []api.Token
		for i, one := range l {
			all = append(all, on(i+1, slices.Clone(one)...)...)
		}
		return all
	}
	wantTokens(t, "\n", lines(empty)...)
	wantTokens(t, " ", lines(empty)...)
	wantTokens(t, "#", lines(empty)...)
	wantTokens(t, " \n", lines(empty)...)
	wantTokens(t, "#\n", lines(empty)...)
	wantTokens(t, "\n ", lines(empty, empty)...)
	wantTokens(t, "\n#", lines(empty, empty)...)
	wantTokens(t, " \n \n", lines(empty, empty)...)
	wantTokens(t, "a\n\n", lines(a, empty)...)
	wantTokens(t, "\na", lines(empty, a)...)
	wantTokens(t, "\na\n", lines(empty, a)...)
	wantTokens(t, "a\na", lines(a, a)...)
	wantTokens(t, "a\n\na\n", lines(a, empty, a)...)
	wantTokens(t, "a # a\na#\n#a\na", lines(a, a, empty, a)...)
	wantTokens(t, strings.Repeat("a\n", 32768), lines(slices.Repeat([][]api.Token{a}, 32768)...)...)
	wantTokens(t, strings.Repeat("\n", 65536), lines(slices.Repeat([][]api.Token{empty}, 65536)...)...)
	wantWrong(t, strings.Repeat("\n", 65535)+"+", api.ErrByte, 65536, 0)
	wantWrong(t, "\n a\n \"a\" \"\n\n", api.ErrOpen, 3, 5)
	wantWrong(t, "a\r\n", api.ErrByte, 1, 1)
}

// 11.1: the text with and without a 0a at its end has the same tokens, but where its last line is empty.
func TestLastEnd(t *testing.T) {
	read := 0
	for _, s := range texts("a\" #\n=", 6) {
		l, err, line, place := Tokens(s)
		m, again, lineAgain, placeAgain := Tokens(s + "\n")
		if s == "" || strings.HasSuffix(s, "\n") {
			if err == api.OK && len(m) != len(l)+1 {
				t.Fatalf("Tokens of %q: %d, and %d with an empty line behind", s, len(l), len(m))
			}
			continue
		}
		if !slices.Equal(l, m) || err != again || line != lineAgain || place != placeAgain {
			t.Fatalf("Tokens(%q) = %#v, %d, %d, %d; with 0a behind %#v, %d, %d, %d", s, l, err, line, place, m, again, lineAgain, placeAgain)
		}
		if err == api.OK {
			read++
		}
	}
	if read < 1000 {
		t.Fatalf("of the texts but %d are read", read)
	}
}

// 11.1: each byte outside of a literal: alone, behind a token, behind blanks, on another line.
func TestBytesOutside(t *testing.T) {
	kinds := map[byte]int{'=': api.KEqual, '(': api.KLeft, ')': api.KRight, ',': api.KComma}
	for c := range 256 {
		s := string([]byte{byte(c)})
		switch {
		case strings.Contains(wordBytes, s):
			wantTokens(t, s, tok(api.KWord, s, 0), tok(api.KEnd, "", 1))
			wantTokens(t, "q"+s+"q "+s, tok(api.KWord, "q"+s+"q", 0), tok(api.KWord, s, 4), tok(api.KEnd, "", 5))
		case kinds[byte(c)] != 0:
			wantTokens(t, s, tok(kinds[byte(c)], "", 0), tok(api.KEnd, "", 1))
			wantTokens(t, "q"+s+"q "+s, tok(api.KWord, "q", 0), tok(kinds[byte(c)], "", 1), tok(api.KWord, "q", 2), tok(kinds[byte(c)], "", 4), tok(api.KEnd, "", 5))
		case s == " ":
			wantTokens(t, "q q", tok(api.KWord, "q", 0), tok(api.KWord, "q", 2), tok(api.KEnd, "", 3))
		case s == "#":
			wantTokens(t, "q#q", tok(api.KWord, "q", 0), tok(api.KEnd, "", 1))
		case s == "\n":
			wantTokens(t, "q\nq", slices.Concat(on(1, tok(api.KWord, "q", 0), tok(api.KEnd, "", 1)), on(2, tok(api.KWord, "q", 0), tok(api.KEnd, "", 1)))...)
		case s == `"`:
			wantWrong(t, s, api.ErrOpen, 1, 0)
			wantWrong(t, "q"+s+"q", api.ErrOpen, 1, 1)
		default:
			wantWrong(t, s, api.ErrByte, 1, 0)
			wantWrong(t, "q"+s+"q", api.ErrByte, 1, 1)
			wantWrong(t, "  "+s, api.ErrByte, 1, 2)
			wantWrong(t, "q\n \n("+s, api.ErrByte, 3, 1)
			wantWrong(t, `"q"`+s, api.ErrByte, 1, 3)
		}
		for d := range 256 {
			wantAsRead(t, s+string([]byte{byte(d)}))
			wantAsRead(t, "q "+s+string([]byte{byte(d)})+"\"\n")
		}
	}
}

// 11.1: each byte in a literal: by itself, and behind a \.
func TestBytesInside(t *testing.T) {
	for c := range 256 {
		s := string([]byte{byte(c)})
		switch {
		case s == `"`:
			wantTokens(t, `"""q"`, tok(api.KLiteral, "", 0), tok(api.KLiteral, "q", 2), tok(api.KEnd, "", 5))
		case s == `\`:
			wantWrong(t, `"q\`+`q"`, api.ErrEscape, 1, 2)
		case s == "\n":
			wantWrong(t, "\"q\nq\"", api.ErrOpen, 1, 0)
			wantWrong(t, "q \"q\n", api.ErrOpen, 1, 2)
		case c < 0x20 || c > 0x7e:
			wantWrong(t, `"q`+s+`"`, api.ErrByte, 1, 2)
			wantWrong(t, `"`+s, api.ErrByte, 1, 1)
			wantWrong(t, "q\n\"q\" \"q"+s+`"`, api.ErrByte, 2, 6)
		default:
			wantTokens(t, `"q`+s+s+`q"`, tok(api.KLiteral, "q"+s+s+"q", 0), tok(api.KEnd, "", 6))
		}
		said, is := map[string]string{`"`: `"`, `\`: `\`, "n": "\n"}[s]
		if is {
			wantTokens(t, `"q\`+s+`q"`, tok(api.KLiteral, "q"+said+"q", 0), tok(api.KEnd, "", 6))
			wantTokens(t, `"\`+s+`"`, tok(api.KLiteral, said, 0), tok(api.KEnd, "", 4))
			wantWrong(t, `"q\`+s, api.ErrOpen, 1, 0)
			continue
		}
		wantWrong(t, `"q\`+s, api.ErrEscape, 1, 2)
		wantWrong(t, `"q\`+s+`"`, api.ErrEscape, 1, 2)
		wantWrong(t, "\n(\"\\n\\"+s+`q"`, api.ErrEscape, 2, 4)
	}
}

// 11.1: each two bytes behind a \x.
func TestHex(t *testing.T) {
	const digit = "0123456789abcdef"
	for c := range 256 {
		for d := range 256 {
			s := string([]byte{byte(c), byte(d)})
			high, low := strings.IndexByte(digit, byte(c)), strings.IndexByte(digit, byte(d))
			if high < 0 || low < 0 {
				wantWrong(t, `"q\x`+s+`"`, api.ErrEscape, 1, 2)
				wantWrong(t, `"q\x`+s, api.ErrEscape, 1, 2)
				continue
			}
			said := string([]byte{byte(16*high + low)})
			wantTokens(t, `"q\x`+s+`0"`, tok(api.KLiteral, "q"+said+"0", 0), tok(api.KEnd, "", 8))
		}
	}
	for _, s := range []string{`"\x`, `"\x4`, `"\x"`, `"\x4"`, "\"\\x\n41\"", "\"\\x4\n1\"", `"\X41"`, `"\x4G"`, `"\x 4"`, `"\x4`, `"\x\x41"`} {
		wantWrong(t, s, api.ErrEscape, 1, 1)
		wantWrong(t, "a\n=(  "+s, api.ErrEscape, 2, 5)
	}
	wantWrong(t, `"\x41`, api.ErrOpen, 1, 0)
	wantWrong(t, "\"\\x41\n\"", api.ErrOpen, 1, 0)
}

// 11.1: what stands in a literal is no token, no blank and no remark.
func TestLiterals(t *testing.T) {
	wantTokens(t, `""`, tok(api.KLiteral, "", 0), tok(api.KEnd, "", 2))
	wantTokens(t, `"" ""`, tok(api.KLiteral, "", 0), tok(api.KLiteral, "", 3), tok(api.KEnd, "", 5))
	wantTokens(t, `" a  # = (b), "`, tok(api.KLiteral, " a  # = (b), ", 0), tok(api.KEnd, "", 15))
	wantTokens(t, `"#"#"`, tok(api.KLiteral, "#", 0), tok(api.KEnd, "", 3))
	wantTokens(t, `"\"" # "`, tok(api.KLiteral, `"`, 0), tok(api.KEnd, "", 4))
	wantTokens(t, `"\\"`, tok(api.KLiteral, `\`, 0), tok(api.KEnd, "", 4))
	wantTokens(t, `"\\n\\\n"`, tok(api.KLiteral, "\\n\\\n", 0), tok(api.KEnd, "", 9))
	wantTokens(t, `"\x22\x5c\x0a\x61\x20"`, tok(api.KLiteral, "\"\\\na ", 0), tok(api.KEnd, "", 22))
	wantTokens(t, `"\x5cn\x5c"`, tok(api.KLiteral, `\n\`, 0), tok(api.KEnd, "", 11))
	wantTokens(t, `"\xc3\xa9\xff\x00\x7f"`, tok(api.KLiteral, "é\xff\x00\x7f", 0), tok(api.KEnd, "", 22))
	wantWrong(t, `"\"`, api.ErrOpen, 1, 0)
	wantWrong(t, `"\\\"`, api.ErrOpen, 1, 0)
	wantWrong(t, `"a" "b" "`, api.ErrOpen, 1, 8)
	wantWrong(t, `"é"`, api.ErrByte, 1, 1)
	long := strings.Repeat("q", 65534)
	wantTokens(t, `"`+long+`"`, tok(api.KLiteral, long, 0), tok(api.KEnd, "", 65536))
	wantWrong(t, `"`+long+`q`, api.ErrOpen, 1, 0)
	wantWrong(t, "\n "+`"`+long[1:]+"\n", api.ErrLong, 0, 0)
	wantWrong(t, `"`+long+`\`, api.ErrEscape, 1, 65535)
	wantWrong(t, `"`+long+"\x7f", api.ErrByte, 1, 65535)
}

// 11.1: tokens that are told apart without a blank.
func TestNeighbours(t *testing.T) {
	wantTokens(t, `a"b"(`, tok(api.KWord, "a", 0), tok(api.KLiteral, "b", 1), tok(api.KLeft, "", 4), tok(api.KEnd, "", 5))
	wantTokens(t, `"a""b"c`, tok(api.KLiteral, "a", 0), tok(api.KLiteral, "b", 3), tok(api.KWord, "c", 6), tok(api.KEnd, "", 7))
	wantTokens(t, `==((`, tok(api.KEqual, "", 0), tok(api.KEqual, "", 1), tok(api.KLeft, "", 2), tok(api.KLeft, "", 3), tok(api.KEnd, "", 4))
	wantTokens(t, `a=b,c)`, tok(api.KWord, "a", 0), tok(api.KEqual, "", 1), tok(api.KWord, "b", 2), tok(api.KComma, "", 3), tok(api.KWord, "c", 4), tok(api.KRight, "", 5), tok(api.KEnd, "", 6))
	wantTokens(t, `a  b   -/. _`, tok(api.KWord, "a", 0), tok(api.KWord, "b", 3), tok(api.KWord, "-/.", 7), tok(api.KWord, "_", 11), tok(api.KEnd, "", 12))
	wantTokens(t, `/../09`, tok(api.KWord, "/../09", 0), tok(api.KEnd, "", 6))
}

// 11.1: a word has at most 255 bytes, whatever stands ahead of it and behind it.
func TestWordLong(t *testing.T) {
	long := strings.Repeat(wordBytes, 4)[:255]
	for _, ahead := range []string{"", " ", "   ", "(", `"a"`, "a ", "a\n", "\n\n  "} {
		line := 1 + strings.Count(ahead, "\n")
		from := len(ahead) - strings.LastIndex(ahead, "\n") - 1
		for _, behind := range []string{"", " ", "\n", "(", `""`, "#a", " a", "=", "\na"} {
			wantAsRead(t, ahead+long+behind)
			l, err, _, _ := Tokens(ahead + long + behind)
			if err != api.OK || !slices.Contains(l, api.Token{Kind: api.KWord, Text: long, Line: line, Place: from}) {
				t.Fatalf("a word of 255 bytes, %q ahead, %q behind: %d", ahead, behind, err)
			}
			for _, more := range []string{"a", "/", "aa", "a+", strings.Repeat("a", 1000)} {
				wantWrong(t, ahead+long+more+behind, api.ErrLong, line, from+255)
			}
		}
		for _, bad := range []string{"+", "+a", "\t", "é", "\x00"} {
			wantWrong(t, ahead+long+bad, api.ErrByte, line, from+255)
			wantWrong(t, ahead+long[:254]+bad+long, api.ErrByte, line, from+254)
		}
		wantWrong(t, ahead+long+`"`, api.ErrOpen, line, from+255)
	}
	for n := 1; n < 300; n++ {
		wantAsRead(t, strings.Repeat("w", n))
		wantAsRead(t, "x "+strings.Repeat("w", n)+"(")
	}
}

// 11.1: a text has at most 65536 bytes; of a longer one nothing else is told.
func TestTextLong(t *testing.T) {
	for _, s := range []string{" ", "\n", "#", "(", "=", "a ", `""`, "a=", "+", `"`, "\\", "\x00", "a", "#\n"} {
		text := strings.Repeat(s, 65536/len(s)+1)
		wantAsRead(t, text[:65536])
		wantAsRead(t, text[:65535])
		wantWrong(t, text[:65537], api.ErrLong, 0, 0)
		wantWrong(t, strings.Repeat(s, 300000), api.ErrLong, 0, 0)
	}
	wantWrong(t, "+"+strings.Repeat(" ", 65536), api.ErrLong, 0, 0)
	wantWrong(t, `"\q`+strings.Repeat("\n", 65536), api.ErrLong, 0, 0)
	wantWrong(t, strings.Repeat("#", 65536)+"\n", api.ErrLong, 0, 0)
	if l, err, _, _ := Tokens(strings.Repeat("(", 65536)); err != api.OK || len(l) != 65537 {
		t.Fatalf("of 65536 signs: %d tokens, %d", len(l), err)
	}
}

// 11.1: of several things that can't be the first is told, from the first line on, from the left.
func TestFirstWrong(t *testing.T) {
	wantWrong(t, "+\n\"", api.ErrByte, 1, 0)
	wantWrong(t, "\"\n+", api.ErrOpen, 1, 0)
	wantWrong(t, "a \"b\\q\\z\" +", api.ErrEscape, 1, 4)
	wantWrong(t, `a + "`, api.ErrByte, 1, 2)
	wantWrong(t, "\"a\tb", api.ErrByte, 1, 2)   // at the 09 the line has not ended yet
	wantWrong(t, `"a\q`, api.ErrEscape, 1, 2)   // nor here
	wantWrong(t, "\"a\t\\q", api.ErrByte, 1, 2) // a byte, then an escape
	wantWrong(t, "\"a\\q\t", api.ErrEscape, 1, 2)
	wantWrong(t, "\"a\\\t\"", api.ErrEscape, 1, 2) // the \ stands ahead of the byte
	wantWrong(t, "\"a\\x0\t\"", api.ErrEscape, 1, 2)
	wantWrong(t, "\"a\\\n\"", api.ErrEscape, 1, 2)
	wantWrong(t, strings.Repeat("a", 300)+"+", api.ErrLong, 1, 255)
	wantWrong(t, "+"+strings.Repeat("a", 300), api.ErrByte, 1, 0)
	wantWrong(t, strings.Repeat("a", 256)+` "`, api.ErrLong, 1, 255)
	wantWrong(t, "a\n(\n"+strings.Repeat("b ", 40)+"\x80\n\"", api.ErrByte, 3, 80)
}

// 11.1: the place of a line's end is that behind its last other token.
func TestEndPlace(t *testing.T) {
	for _, s := range []string{"a", "abc", `"a"`, `"\x00"`, `""`, "=", "(", ")", ",", "a b", `a "b"`, "  a", "a  =", strings.Repeat("a", 255)} {
		for _, behind := range []string{"", " ", "   ", "#", "  # a", "#\x00\xff\"", "\n", "  \n", " #\n", "\n\n"} {
			l, err, _, _ := Tokens(s + behind)
			at := slices.IndexFunc(l, func(t api.Token) bool { return t.Kind == api.KEnd })
			if err != api.OK || at < 0 || l[at] != tok(api.KEnd, "", len(s)) {
				t.Fatalf("Tokens(%q) = %#v, %d", s+behind, l, err)
			}
		}
	}
	for _, s := range []string{" ", "     ", "#", "   # a", "#\"\\\x00", "  \n", "\n"} {
		wantTokens(t, s, tok(api.KEnd, "", 0))
		wantTokens(t, "a  #\n"+s, append(on(1, tok(api.KWord, "a", 0), tok(api.KEnd, "", 1)), on(2, tok(api.KEnd, "", 0))...)...)
	}
}

// 11.1: a remark may have any bytes but 0a.
func TestRemarkBytes(t *testing.T) {
	for c := range 256 {
		s := string([]byte{byte(c)})
		if s == "\n" {
			continue
		}
		wantTokens(t, "a #"+s+"b", tok(api.KWord, "a", 0), tok(api.KEnd, "", 1))
		wantTokens(t, "#"+s+"\n"+"b", append(on(1, tok(api.KEnd, "", 0)), on(2, tok(api.KWord, "b", 0), tok(api.KEnd, "", 1))...)...)
	}
	wantTokens(t, "a#"+strings.Repeat("b", 60000), tok(api.KWord, "a", 0), tok(api.KEnd, "", 1))
}

// 11.1: all short texts of few letters, against a plain reading.
func TestShortTexts(t *testing.T) {
	for _, letters := range []string{"a\"\\x0\n# ", "\"\\nx1f\"G", "a=(,) \n", "a+\"\t#\n\\"} {
		for _, s := range texts(letters, 5) {
			wantAsRead(t, s)
			wantAsRead(t, `"`+s)
		}
	}
}

// 11.1: texts that are right, or nearly so, against a plain reading.
func TestTextsByChance(t *testing.T) {
	r := rand.New(rand.NewSource(11))
	counts := make(map[api.Errno]int)
	for range 200000 {
		b := []byte(chanceText(r))
		for k := r.Intn(4) - 1; k > 0 && len(b) > 0; k-- {
			b[r.Intn(len(b))] = "\"\\x#\n a+\x00\xff\x7f"[r.Intn(11)]
		}
		wantAsRead(t, string(b))
		_, err, _, _ := Tokens(string(b))
		counts[err]++
	}
	if counts[api.OK] < 50000 || counts[api.ErrByte] < 1000 || counts[api.ErrEscape] < 1000 || counts[api.ErrOpen] < 1000 || counts[api.ErrLong] < 100 {
		t.Fatalf("too few of a kind: %v", counts)
	}
	for range 20000 {
		b := make([]byte, r.Intn(300))
		r.Read(b)
		wantAsRead(t, string(b))
	}
}
