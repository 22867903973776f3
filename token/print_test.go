package token

import (
	"math"
	"math/rand"
	"slices"
	"strings"
	"testing"
	"unsafe"

	"kiln/api"
)

// 11.2: each byte, each two bytes, and long ones; and what is quoted says just its bytes.
func TestQuote(t *testing.T) {
	all := []string{"", "é", "\r\n", `\n`, `\x41`, `"`, `""`, "a b # c", strings.Repeat("\xff", 300), strings.Repeat("a", 300), strings.Repeat("\n", 300)}
	for c := range 256 {
		all = append(all, string([]byte{byte(c)}))
		for d := range 256 {
			all = append(all, string([]byte{byte(c), byte(d)}))
		}
	}
	r := rand.New(rand.NewSource(112))
	for range 2000 {
		b := make([]byte, r.Intn(600))
		r.Read(b)
		all = append(all, string(b))
	}
	for _, s := range all {
		q := Quote(s)
		if q != quotePlainly(s) {
			t.Fatalf("Quote(%q) = %s, want %s", s, q, quotePlainly(s))
		}
		wantTokens(t, q, tok(api.KLiteral, s, 0), tok(api.KEnd, "", len(q)))
	}
}

// 11.2: no bound is set to what is quoted.
func TestQuoteLong(t *testing.T) {
	for s, want := range map[string]string{"\x00": `\x00`, "a": "a", "\n": `\n`, `"`: `\"`} {
		if q := Quote(strings.Repeat(s, 1<<20)); q != `"`+strings.Repeat(want, 1<<20)+`"` {
			t.Fatalf("of 2^20 times %q: %d bytes", s, len(q))
		}
	}
}

// 11.3: each two kinds beside each other, and what stands between them.
func TestPrintNeighbours(t *testing.T) {
	one := []api.Token{word("w"), literal("l"), sign(api.KEqual), sign(api.KLeft), sign(api.KRight), sign(api.KComma), lineEnd}
	shown := []string{"w", `"l"`, "=", "(", ")", ",", "\n"}
	for i := range one {
		wantPrint(t, shown[i]+"\n", one[i], lineEnd)
		for k := range one {
			want := shown[i] + shown[k]
			if i < 3 && k < 3 { // a word, a literal, an =
				want = shown[i] + " " + shown[k]
			}
			wantPrint(t, want+"\n", one[i], one[k], lineEnd)
			wantPrint(t, "\n"+want+"\n", lineEnd, one[i], one[k], lineEnd)
			wantPrint(t, "("+want+")\n", sign(api.KLeft), one[i], one[k], sign(api.KRight), lineEnd)
		}
	}
	wantPrint(t, "a \"\" \"b\" = =(,)c =(\"d\",e)\n",
		word("a"), literal(""), literal("b"), sign(api.KEqual), sign(api.KEqual), sign(api.KLeft), sign(api.KComma), sign(api.KRight), word("c"), sign(api.KEqual),
		sign(api.KLeft), literal("d"), sign(api.KComma), word("e"), sign(api.KRight), lineEnd)
}

// 11.3: ErrArg, whatever else the tokens are: a Kind that is none, wherever it stands.
func TestPrintKind(t *testing.T) {
	for _, kind := range []int{0, -1, 8, 9, 256 + api.KWord, 1<<32 + api.KEnd, math.MaxInt, math.MinInt} {
		bad := api.Token{Kind: kind, Text: "a"}
		wantNoPrint(t, api.ErrArg, bad)
		wantNoPrint(t, api.ErrArg, bad, lineEnd)
		wantNoPrint(t, api.ErrArg, word("a"), bad, lineEnd)
		wantNoPrint(t, api.ErrArg, word("a"), lineEnd, bad)
		wantNoPrint(t, api.ErrArg, word("a"), lineEnd, bad, lineEnd)
	}
}

// 11.3: ErrArg: a Text that is no word; the same Text is no fault of another kind.
func TestPrintWord(t *testing.T) {
	bad := []string{"", " ", "a b", " a", "a ", "a\n", `"a"`, "a=", "(", "#", "a#b", "é", "a\x00", "\xff", `a\`, "a+b", "@", "[", "`", "{", ":", ",", "^", strings.Repeat("a", 256), strings.Repeat("a", 1<<20)}
	for c := range 256 {
		s := string([]byte{byte(c)})
		if strings.Contains(wordBytes, s) {
			wantPrint(t, s+"\n", word(s), lineEnd)
			wantPrint(t, "a"+s+"a a\n", word("a"+s+"a"), word("a"), lineEnd)
			continue
		}
		bad = append(bad, s, "a"+s, s+"a", strings.Repeat("a", 254)+s)
	}
	for _, s := range bad {
		wantNoPrint(t, api.ErrArg, word(s), lineEnd)
		wantNoPrint(t, api.ErrArg, word("a"), lineEnd, word(s), word("b"), lineEnd)
		wantPrint(t, "=\n", api.Token{Kind: api.KEqual, Text: s}, lineEnd)
		if len(s) < 300 {
			wantPrint(t, quotePlainly(s)+"\n", literal(s), lineEnd)
		}
	}
	for _, s := range []string{strings.Repeat("a", 255), "/", "..", "-", "/a//b/", "task", "07"} {
		wantPrint(t, s+"\n", word(s), lineEnd)
	}
}

// 11.3: ErrArg: a last token that is no end.
func TestPrintLast(t *testing.T) {
	for _, last := range []api.Token{word("a"), literal("a"), sign(api.KEqual), sign(api.KLeft), sign(api.KRight), sign(api.KComma)} {
		wantNoPrint(t, api.ErrArg, last)
		wantNoPrint(t, api.ErrArg, lineEnd, last)
		wantNoPrint(t, api.ErrArg, word("a"), lineEnd, last)
	}
	wantPrint(t, "\n\n", lineEnd, lineEnd)
	if s, err := Print([]api.Token{}); s != "" || err != api.OK {
		t.Fatalf("Print of an empty list = %q, %d", s, err)
	}
	if s, err := Print(nil); s != "" || err != api.OK {
		t.Fatalf("Print(nil) = %q, %d", s, err)
	}
}

// 11.3: a text of 65536 bytes is told, one of 65537 is not, whatever comes last.
func TestPrintLong(t *testing.T) {
	fill := func(n int) api.Token { return literal(strings.Repeat("f", n)) }
	filled := func(n int) string { return `"` + strings.Repeat("f", n) + `"` }
	for _, r := range []struct {
		behind []api.Token
		text   string
	}{
		{[]api.Token{lineEnd}, "\n"},
		{[]api.Token{lineEnd, lineEnd}, "\n\n"},
		{[]api.Token{word("abc"), lineEnd}, " abc\n"},
		{[]api.Token{literal("\x00\n"), lineEnd}, " \"\\x00\\n\"\n"},
		{[]api.Token{sign(api.KEqual), lineEnd}, " =\n"},
		{[]api.Token{sign(api.KLeft), lineEnd}, "(\n"},
		{[]api.Token{sign(api.KRight), sign(api.KComma), word("a"), word("b"), lineEnd, word("c"), lineEnd}, "),a b\nc\n"},
	} {
		n := 65536 - 2 - len(r.text)
		wantPrint(t, filled(n)+r.text, append([]api.Token{fill(n)}, r.behind...)...)
		wantPrint(t, filled(n-1)+r.text, append([]api.Token{fill(n - 1)}, r.behind...)...)
		wantNoPrint(t, api.ErrLong, append([]api.Token{fill(n + 1)}, r.behind...)...)
		wantNoPrint(t, api.ErrLong, append([]api.Token{fill(1 << 20)}, r.behind...)...)
	}
	zeros := strings.Repeat("\x00", 16383)
	wantPrint(t, quotePlainly(zeros)+"\n", literal(zeros), lineEnd)
	wantPrint(t, quotePlainly(zeros+"a")+"\n", literal(zeros+"a"), lineEnd)
	wantPrint(t, quotePlainly(zeros)+"\n\n", literal(zeros), lineEnd, lineEnd)
	wantNoPrint(t, api.ErrLong, literal(zeros+"\n"), lineEnd)
	wantNoPrint(t, api.ErrLong, literal(zeros+"\x00"), lineEnd)
	wantPrint(t, strings.Repeat("\n", 65536), slices.Repeat([]api.Token{lineEnd}, 65536)...)
	wantNoPrint(t, api.ErrLong, slices.Repeat([]api.Token{lineEnd}, 65537)...)
	wantPrint(t, strings.Repeat("a\n", 32768), slices.Repeat([]api.Token{word("a"), lineEnd}, 32768)...)
	wantNoPrint(t, api.ErrLong, slices.Repeat([]api.Token{word("a"), lineEnd}, 32769)...)
	wantNoPrint(t, api.ErrLong, slices.Repeat([]api.Token{word("a"), lineEnd}, 1<<20)...)
}

// 11.3: ErrArg, though the text would be too long as well, wherever the wrong token stands.
func TestPrintArgFirst(t *testing.T) {
	long := literal(strings.Repeat("f", 70000))
	wantNoPrint(t, api.ErrLong, long, lineEnd)
	wantNoPrint(t, api.ErrArg, long)
	wantNoPrint(t, api.ErrArg, long, word(""), lineEnd)
	wantNoPrint(t, api.ErrArg, word("a b"), long, lineEnd)
	wantNoPrint(t, api.ErrArg, long, lineEnd, sign(0), lineEnd)
	wantNoPrint(t, api.ErrArg, long, lineEnd, word("a"))
	wantNoPrint(t, api.ErrArg, append(slices.Repeat([]api.Token{lineEnd}, 100000), word("a"))...)
}

// 11.3: Line and Place, and the Text of signs and ends, are not looked at.
func TestPrintNotLookedAt(t *testing.T) {
	for _, text := range []string{"", "x", "\x00\"\n", strings.Repeat("a", 300), strings.Repeat("a", 100000)} {
		for _, n := range []int{0, 1, -1, math.MaxInt, math.MinInt} {
			wantPrint(t, "a =(),\"l\"\n",
				api.Token{Kind: api.KWord, Text: "a", Line: n, Place: n}, api.Token{Kind: api.KEqual, Text: text, Line: -n, Place: n}, api.Token{Kind: api.KLeft, Text: text, Place: n},
				api.Token{Kind: api.KRight, Text: text, Line: n}, api.Token{Kind: api.KComma, Text: text, Place: n}, api.Token{Kind: api.KLiteral, Text: "l", Line: n, Place: -n},
				api.Token{Kind: api.KEnd, Text: text, Line: n, Place: n})
		}
	}
}

// 11.3: tokens that are right, or nearly so, against a plain reading.
func TestPrintByChance(t *testing.T) {
	r := rand.New(rand.NewSource(113))
	counts := make(map[api.Errno]int)
	for range 50000 {
		l := chanceTokens(r)
		if r.Intn(4) == 0 && len(l) > 0 {
			k := r.Intn(len(l))
			switch r.Intn(12) {
			case 0:
				l[k].Text = strings.Repeat(l[k].Text, 1+r.Intn(30000))
			case 1, 2, 3:
				l[k].Kind = r.Intn(12) - 2
			case 4, 5, 6:
				l[k].Text = chanceBytes(r)
			default:
				l = l[:k]
			}
		}
		want, wrong := printPlainly(l)
		counts[wrong]++
		if s, err := Print(l); err != wrong || s != want {
			t.Fatalf("Print(%s) = %.200q, %d, want %.200q, %d", shown(l), s, err, want, wrong)
		}
	}
	if counts[api.OK] < 25000 || counts[api.ErrArg] < 1000 || counts[api.ErrLong] < 50 {
		t.Fatalf("too few of a kind: %v", counts)
	}
}

// bare: tokens without what Print does not look at, and, for a line, the number that 11.4 tells.
func bare(l []api.Token) []api.Token {
	line := 1
	m := make([]api.Token, 0, len(l))
	for _, t := range l {
		b := api.Token{Kind: t.Kind, Line: line}
		if t.Kind == api.KWord || t.Kind == api.KLiteral {
			b.Text = t.Text
		}
		if t.Kind == api.KEnd {
			line++
		}
		m = append(m, b)
	}
	return m
}

// noPlaces: tokens without their Places.
func noPlaces(l []api.Token) []api.Token {
	m := slices.Clone(l)
	for i := range m {
		m[i].Place = 0
	}
	return m
}

// 11.4: what is printed is read.
func TestPrintedIsRead(t *testing.T) {
	r := rand.New(rand.NewSource(114))
	for range 50000 {
		l := chanceTokens(r)
		s, err := Print(l)
		if err != api.OK {
			t.Fatalf("Print(%#v) = %q, %d", l, s, err)
		}
		m, err, line, place := Tokens(s)
		if err != api.OK || !slices.Equal(noPlaces(m), bare(l)) {
			t.Fatalf("of %#v Print tells %q, and that is read as %#v, %d, %d, %d", l, s, m, err, line, place)
		}
	}
	for a := api.KWord; a <= api.KEnd; a++ {
		for b := api.KWord; b <= api.KEnd; b++ {
			for c := api.KWord; c <= api.KEnd; c++ {
				l := []api.Token{{Kind: a, Text: "x"}, {Kind: b, Text: "x"}, {Kind: c, Text: "x"}, lineEnd}
				s, _ := Print(l)
				if m, err, _, _ := Tokens(s); err != api.OK || !slices.Equal(noPlaces(m), bare(l)) {
					t.Fatalf("of %#v Print tells %q, and that is read as %#v, %d", l, s, m, err)
				}
			}
		}
	}
}

// 11.4: Print of a text's tokens has these tokens, but for their Places, and is its own Print.
func TestReadIsPrinted(t *testing.T) {
	r := rand.New(rand.NewSource(1140))
	all := texts("a\" #\n=(", 6)
	for range 50000 {
		all = append(all, chanceText(r))
	}
	read := 0
	for _, text := range all {
		l, err, _, _ := Tokens(text)
		if err != api.OK {
			continue
		}
		read++
		s, err := Print(l)
		m, again, _, _ := Tokens(s)
		if err != api.OK || again != api.OK || !slices.Equal(noPlaces(l), noPlaces(m)) {
			t.Fatalf("the tokens of %q are printed as %q, %d, and those are %#v, %d", text, s, err, m, again)
		}
		if same, err := Print(m); err != api.OK || same != s {
			t.Fatalf("%q is printed as %q, %d", s, same, err)
		}
	}
	if read < 50000 {
		t.Fatalf("of the texts but %d are read", read)
	}
	// A text that is not too long, but its print is.
	if l, err, _, _ := Tokens(strings.Repeat("==", 32768)); err != api.OK || len(l) != 65537 {
		t.Fatalf("of 65536 signs: %d tokens, %d", len(l), err)
	} else {
		wantNoPrint(t, api.ErrLong, l...)
	}
}

// spaced: the text of these tokens with blanks and remarks put behind its lines, and, unless trailing, blanks ahead of tokens too.
func spaced(r *rand.Rand, text string, l []api.Token, trailing bool) string {
	var b strings.Builder
	lines := strings.Split(text, "\n")
	blanks := func() { b.WriteString(strings.Repeat(" ", r.Intn(4))) }
	at := 0
	for i, t := range l {
		s := lines[t.Line-1]
		if t.Kind != api.KEnd {
			next := l[i+1].Place
			if !trailing {
				blanks()
			}
			b.WriteString(s[at:next])
			at = next
			continue
		}
		blanks()
		b.WriteString(s[at:])
		if r.Intn(2) == 0 {
			b.WriteString("#" + strings.ReplaceAll(chanceBytes(r), "\n", "\r"))
		}
		if i < len(l)-1 || strings.HasSuffix(text, "\n") {
			b.WriteByte('\n')
		}
		at = 0
	}
	return b.String()
}

// 11.5: remarks and blanks turn nothing; behind a line's last token no Place either.
func TestRemarksAndBlanks(t *testing.T) {
	r := rand.New(rand.NewSource(115))
	read, moved := 0, 0
	for range 50000 {
		text := chanceText(r)
		l, err, _, _ := Tokens(text)
		if err != api.OK {
			continue
		}
		read++
		for _, trailing := range []bool{true, false} {
			other := spaced(r, text, l, trailing)
			m, err, line, place := Tokens(other)
			if err != api.OK || !slices.Equal(noPlaces(l), noPlaces(m)) {
				t.Fatalf("the tokens of %q are %#v; those of %q are %#v, %d, %d, %d", text, l, other, m, err, line, place)
			}
			if trailing && !slices.Equal(l, m) {
				t.Fatalf("the tokens of %q are %#v; those of %q are %#v", text, l, other, m)
			}
			if !slices.Equal(l, m) {
				moved++
			}
		}
	}
	if read < 20000 || moved < 10000 {
		t.Fatalf("of the texts but %d are read, and of %d the places are others", read, moved)
	}
}

// 11.6: nothing is kept from call to call.
func TestNothingKept(t *testing.T) {
	for range 3 {
		wantTokens(t, "a \"b\"", tok(api.KWord, "a", 0), tok(api.KLiteral, "b", 2), tok(api.KEnd, "", 5))
		wantWrong(t, "a\n\"b", api.ErrOpen, 2, 0)
		wantTokens(t, "")
		wantWrong(t, "(\\", api.ErrByte, 1, 1)
		wantPrint(t, "a\n", word("a"), lineEnd)
		wantNoPrint(t, api.ErrArg, word("a"))
		wantPrint(t, "")
		if q := Quote("a"); q != `"a"` {
			t.Fatalf("Quote(`a`) = %s", q)
		}
	}
}

// 11.6: the list that is handed in is not changed, nor the room behind it.
func TestHandedIn(t *testing.T) {
	room := []api.Token{{Kind: api.KWord, Text: "a", Line: 7, Place: 8}, {Kind: api.KEqual, Text: "b"}, literal("c\n"), {Kind: api.KEnd, Text: "d", Place: -1}, word("e f"), {Kind: 9}}
	was := slices.Clone(room)
	for n := range len(room) + 1 {
		s, err := Print(room[:n])
		if !slices.Equal(room, was) {
			t.Fatalf("Print of %d tokens: what was handed in is %#v", n, room)
		}
		if want, wrong := printPlainly(was[:n]); s != want || err != wrong {
			t.Fatalf("Print(%#v) = %q, %d", was[:n], s, err)
		}
	}
}

// 11.6: answers are new memory: what is put into one, or into its spare room, changes no other.
func TestHandedOut(t *testing.T) {
	for _, s := range []string{"a", "a b c", "a\n\"b\"\n", strings.Repeat("(", 100)} {
		first, _, _, _ := Tokens(s)
		second, _, _, _ := Tokens(s)
		want := slices.Clone(second)
		full := first[:cap(first)]
		for i, f := range full {
			if i >= len(first) && f != (api.Token{}) {
				t.Fatalf("Tokens(%q): in the spare room stands %#v", s, f)
			}
			full[i] = word("!")
		}
		if !slices.Equal(second, want) {
			t.Fatalf("Tokens(%q): the other answer is %#v", s, second)
		}
		wantTokens(t, s, want...)
	}
}

// lent: a text whose bytes can be changed behind a call, as no text of plain Go can.
func lent(s string) (string, []byte) {
	b := []byte(s)
	return unsafe.String(unsafe.SliceData(b), len(b)), b
}

// 11.6: an answer has no byte of what was handed in.
func TestBytesHandedOut(t *testing.T) {
	for _, s := range []string{"a", "ab cd", `"a"`, `"ab" cd("\n",e)`, "a # b\nc", strings.Repeat("a", 255)} {
		text, b := lent(s)
		want, _, _, _ := Tokens(s)
		l, err, _, _ := Tokens(text)
		clear(b)
		if err != api.OK || !slices.Equal(l, want) {
			t.Fatalf("Tokens(%q), changed behind the call: %#v, %d", s, l, err)
		}

		text, b = lent(s)
		q := Quote(text)
		clear(b)
		if q != quotePlainly(s) {
			t.Fatalf("Quote(%q), changed behind the call: %q", s, q)
		}

		name, c := lent("a/b")
		text, b = lent(s)
		p, err := Print([]api.Token{word(name), literal(text), lineEnd})
		clear(b)
		clear(c)
		if err != api.OK || p != "a/b "+quotePlainly(s)+"\n" {
			t.Fatalf("Print of %q, changed behind the call: %q, %d", s, p, err)
		}
	}
}

// 11.6: every call ends, and none panics, whatever bytes it is given.
func TestAnyBytes(t *testing.T) {
	r := rand.New(rand.NewSource(116))
	for range 20000 {
		b := make([]byte, r.Intn(400))
		r.Read(b)
		s := string(b)
		wantAsRead(t, s)
		wantAsRead(t, `"`+s)
		var l []api.Token
		for len(b) > 3 {
			l = append(l, api.Token{Kind: int(b[0]) % 9, Text: string(b[1:min(len(b), 1+int(b[1])%4)]), Line: int(int8(b[2])), Place: int(int8(b[3]))})
			b = b[4:]
		}
		want, wrong := printPlainly(l)
		if p, err := Print(l); p != want || err != wrong {
			t.Fatalf("Print(%#v) = %q, %d", l, p, err)
		}
	}
	for _, s := range []string{strings.Repeat("\x00", 1<<20), strings.Repeat("\\", 1<<20), strings.Repeat("\"", 1<<20), strings.Repeat("\n", 1<<20)} {
		wantWrong(t, s, api.ErrLong, 0, 0)
		wantNoPrint(t, api.ErrLong, literal(s), lineEnd)
		wantNoPrint(t, api.ErrArg, word(s), lineEnd)
	}
}
