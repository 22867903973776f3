package token

import (
	"math/rand"
	"regexp"
	"strings"

	"kiln/api"
)

const wordBytes = "abcdefghijklmnopqrstuvwxyzABCDEFGHIJKLMNOPQRSTUVWXYZ0123456789._-/"

// What may stand at the beginning of the rest of a line.
var (
	nothingAhead = regexp.MustCompile(`(?s)^ *(#.*)?`)
	wordAhead    = regexp.MustCompile(`^[a-zA-Z0-9._/-]+`)
	openAhead    = regexp.MustCompile(`^"([ !#-\[\]-~]|\\["\\n]|\\x[0-9a-f][0-9a-f])*`) // a literal, as far as it can be
	escapes      = regexp.MustCompile(`\\(x..|.)`)
)

// readPlainly: what chapter 11 tells of a text, line by line.
func readPlainly(text string) ([]api.Token, api.Errno, int, int) {
	if len(text) > 65536 {
		return nil, api.ErrLong, 0, 0
	}
	if text == "" {
		return nil, api.OK, 0, 0
	}
	var l []api.Token
	for i, s := range strings.Split(strings.TrimSuffix(text, "\n"), "\n") {
		of, err, place := readLine(s)
		if err != api.OK {
			return nil, err, i + 1, place
		}
		for _, t := range of {
			t.Line = i + 1
			l = append(l, t)
		}
	}
	return l, api.OK, 0, 0
}

// readLine: the tokens of one line, without their Line.
func readLine(s string) ([]api.Token, api.Errno, int) {
	var l []api.Token
	at, behind := 0, 0
	for {
		at += len(nothingAhead.FindString(s[at:]))
		if at == len(s) {
			return append(l, api.Token{Kind: api.KEnd, Place: behind}), api.OK, 0
		}
		t := api.Token{Place: at}
		if w := wordAhead.FindString(s[at:]); w != "" {
			if len(w) > 255 {
				return nil, api.ErrLong, at + 255
			}
			t.Kind, t.Text = api.KWord, w
			at += len(w)
		} else if q := openAhead.FindString(s[at:]); q != "" {
			switch end := at + len(q); {
			case end == len(s):
				return nil, api.ErrOpen, at
			case s[end] == '\\':
				return nil, api.ErrEscape, end
			case s[end] != '"':
				return nil, api.ErrByte, end
			}
			t.Kind, t.Text = api.KLiteral, escapes.ReplaceAllStringFunc(q[1:], said)
			at += len(q) + 1
		} else {
			t.Kind = map[byte]int{'=': api.KEqual, '(': api.KLeft, ')': api.KRight, ',': api.KComma}[s[at]]
			if t.Kind == 0 {
				return nil, api.ErrByte, at
			}
			at++
		}
		behind = at
		l = append(l, t)
	}
}

// said: the byte that an escape says.
func said(escape string) string {
	switch escape[1] {
	case 'n':
		return "\n"
	case 'x':
		const digit = "0123456789abcdef"
		return string([]byte{byte(16*strings.IndexByte(digit, escape[2]) + strings.IndexByte(digit, escape[3]))})
	}
	return escape[1:]
}

// printPlainly: what 11.3 tells of tokens.
func printPlainly(l []api.Token) (string, api.Errno) {
	text := ""
	shown := map[int]string{api.KEqual: "=", api.KLeft: "(", api.KRight: ")", api.KComma: ",", api.KEnd: "\n"}
	apart := func(t api.Token) bool {
		return t.Kind == api.KWord || t.Kind == api.KLiteral || t.Kind == api.KEqual
	}
	for i, t := range l {
		if i > 0 && apart(l[i-1]) && apart(t) {
			text += " "
		}
		switch {
		case t.Kind == api.KWord && wordAhead.FindString(t.Text) == t.Text && len(t.Text) >= 1 && len(t.Text) <= 255:
			text += t.Text
		case t.Kind == api.KLiteral:
			text += quotePlainly(t.Text)
		case shown[t.Kind] != "":
			text += shown[t.Kind]
		default:
			return "", api.ErrArg
		}
	}
	if len(l) > 0 && l[len(l)-1].Kind != api.KEnd {
		return "", api.ErrArg
	}
	if len(text) > 65536 {
		return "", api.ErrLong
	}
	return text, api.OK
}

// quotePlainly: 11.2, byte by byte.
func quotePlainly(s string) string {
	var q strings.Builder
	for _, c := range []byte(s) {
		one := string([]byte{c})
		switch {
		case c == '"' || c == '\\':
			one = `\` + one
		case c == 10:
			one = `\n`
		case c < 0x20 || c > 0x7e:
			const digit = "0123456789abcdef"
			one = `\x` + digit[c/16:c/16+1] + digit[c%16:c%16+1]
		}
		q.WriteString(one)
	}
	return `"` + q.String() + `"`
}

// texts: all texts of these letters with at most so many of them.
func texts(letters string, most int) []string {
	all := []string{""}
	for from := 0; most > 0; most-- {
		to := len(all)
		for _, s := range all[from:to] {
			for i := range len(letters) {
				all = append(all, s+letters[i:i+1])
			}
		}
		from = to
	}
	return all
}

// chanceBytes: some bytes, of which many must be written by an escape.
func chanceBytes(r *rand.Rand) string {
	b := make([]byte, r.Intn(12))
	for i := range b {
		if r.Intn(2) == 0 {
			b[i] = byte(r.Intn(256))
		} else {
			b[i] = "ab \"\\\n#=()x0"[r.Intn(12)]
		}
	}
	return string(b)
}

// chanceWord: a word, now and then as long as one may be, or longer.
func chanceWord(r *rand.Rand) string {
	n := 1 + r.Intn(8)
	if r.Intn(100) == 0 {
		n = 253 + r.Intn(5)
	}
	b := make([]byte, n)
	for i := range b {
		b[i] = wordBytes[r.Intn(len(wordBytes))]
	}
	return string(b)
}

// chanceLiteral: a literal, some of whose bytes are written otherwise than Quote would.
func chanceLiteral(r *rand.Rand) string {
	var b strings.Builder
	for _, c := range []byte(chanceBytes(r)) {
		one := quotePlainly(string([]byte{c}))
		one = one[1 : len(one)-1]
		if r.Intn(4) == 0 {
			const digit = "0123456789abcdef"
			one = `\x` + digit[c/16:c/16+1] + digit[c%16:c%16+1]
		}
		b.WriteString(one)
	}
	return `"` + b.String() + `"`
}

// chanceText: some lines of tokens, with blanks and remarks.
func chanceText(r *rand.Rand) string {
	var b strings.Builder
	for k := r.Intn(12); k > 0; k-- {
		switch r.Intn(8) {
		case 0, 1:
			b.WriteString(chanceWord(r))
		case 2:
			b.WriteString(chanceLiteral(r))
		case 3, 4:
			b.WriteByte("=(),"[r.Intn(4)])
		case 5:
			b.WriteString(strings.Repeat(" ", 1+r.Intn(3)))
		case 6:
			b.WriteString("\n")
		default:
			if r.Intn(3) == 0 {
				b.WriteString("#" + strings.ReplaceAll(chanceBytes(r), "\n", ""))
			}
		}
	}
	return b.String()
}

// chanceTokens: tokens that are right, with lines, places and texts that don't count.
func chanceTokens(r *rand.Rand) []api.Token {
	var l []api.Token
	for k := r.Intn(12); k > 0; k-- {
		t := api.Token{Kind: 1 + r.Intn(7), Text: chanceBytes(r), Line: r.Intn(9) - 4, Place: r.Intn(9) - 4}
		for t.Kind == api.KWord && !(wordAhead.FindString(t.Text) == t.Text && t.Text != "" && len(t.Text) < 256) {
			t.Text = chanceWord(r)
		}
		l = append(l, t)
	}
	if len(l) > 0 {
		l[len(l)-1].Kind = api.KEnd
	}
	return l
}
