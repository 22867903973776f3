package path

import (
	"math/rand"
	"slices"
	"strings"
	"testing"
	"unsafe"

	"kiln/api"
)

const nameBytes = "abcdefghijklmnopqrstuvwxyzABCDEFGHIJKLMNOPQRSTUVWXYZ0123456789._-"

// texts: all texts of these letters with at most so many of them.
func texts(letters string, most int) []string {
	all := []string{""}
	for from := 0; most > 0; most-- {
		to := len(all)
		for _, s := range all[from:to] {
			for i := range len(letters) {
				all = append(all, s+letters[i:i+1])
			}
		}
		from = to
	}
	return all
}

// places: every place that 5.2 lists for s, one item of its list behind the other.
func places(s string) []int {
	var l []int
	for i := range len(s) {
		if s[i] != '/' && strings.IndexByte(nameBytes, s[i]) < 0 {
			l = append(l, i)
		}
	}
	parts := strings.Split(s, "/")
	from := 0
	for i, p := range parts {
		last := i == len(parts)-1
		if p == "" && !last {
			l = append(l, from)
		}
		if len(p) > 64 {
			l = append(l, from+64)
		}
		if p == "." || p == ".." {
			l = append(l, from)
		}
		if i == 15 && !last {
			l = append(l, from+len(p))
		}
		if p == "" && last {
			l = append(l, len(s))
		}
		from += len(p) + 1
	}
	if len(s) > 255 {
		l = append(l, 255)
	}
	return l
}

func wantNames(t *testing.T, s string, want ...string) {
	t.Helper()
	if names, err, at := Parse(s); err != api.OK || at != 0 || !slices.Equal(names, want) {
		t.Fatalf("Parse(%q) = %q, %d, %d, want %q, OK, 0", s, names, err, at, want)
	}
}

func wantWrong(t *testing.T, s string, want int) {
	t.Helper()
	if names, err, at := Parse(s); err != api.ErrPath || at != want || len(names) != 0 {
		t.Fatalf("Parse(%q) = %q, %d, %d, want none, ErrPath, %d", s, names, err, at, want)
	}
}

// wantAsListed: Parse tells of s what 5.2's list does.
func wantAsListed(t *testing.T, s string) {
	t.Helper()
	if l := places(s); len(l) > 0 {
		wantWrong(t, s, slices.Min(l))
		return
	}
	wantNames(t, s, strings.Split(s, "/")...)
}

func wantText(t *testing.T, want string, names ...string) {
	t.Helper()
	if s, err := Text(names); err != api.OK || s != want {
		t.Fatalf("Text(%q) = %q, %d, want %q, OK", names, s, err, want)
	}
}

func wantNoText(t *testing.T, names ...string) {
	t.Helper()
	if s, err := Text(names); err != api.ErrPath || s != "" {
		t.Fatalf("Text(%q) = %q, %d, want none, ErrPath", names, s, err)
	}
}

func wantName(t *testing.T, s string, want bool) {
	t.Helper()
	if Name(s) != want {
		t.Fatalf("Name(%q) = %t", s, !want)
	}
}

func wantOrder(t *testing.T, a, b string, want int) {
	t.Helper()
	if n := Order(a, b); n != want {
		t.Fatalf("Order(%q, %q) = %d, want %d", a, b, n, want)
	}
	if n := Order(b, a); n != -want {
		t.Fatalf("Order(%q, %q) = %d, want %d", b, a, n, -want)
	}
}

func wantUnder(t *testing.T, a, b string, want bool) {
	t.Helper()
	if Under(a, b) != want {
		t.Fatalf("Under(%q, %q) = %t", a, b, !want)
	}
}

// joined: so many names of so many bytes each, as a text.
func joined(names, size int) string {
	return strings.Join(slices.Repeat([]string{strings.Repeat("x", size)}, names), "/")
}

func TestExamples(t *testing.T) {
	wantNames(t, "a/b.c/D-9_", "a", "b.c", "D-9_")
	wantWrong(t, "", 0)
	wantWrong(t, "/a", 0)
	wantWrong(t, "a//b", 2)
	wantWrong(t, "a/", 2)
	wantWrong(t, "a/../b", 2)
	wantWrong(t, ".", 0)
	wantNames(t, "...", "...")
	wantWrong(t, "a b", 1)
	wantWrong(t, "a/é", 2)
	wantWrong(t, strings.Repeat("a", 65), 64)
	wantNames(t, strings.Repeat("a", 64), strings.Repeat("a", 64))
	wantWrong(t, strings.Repeat("a/", 16)+"a", 31)
	wantText(t, "a/b", "a", "b")
	wantNoText(t)
	wantNoText(t, "a/b")
	wantOrder(t, "a/b", "a.b", -1)
	wantOrder(t, "a", "a/b", -1)
	wantOrder(t, "b", "a/b", 1)
	wantOrder(t, "a", "", 1)
	wantUnder(t, "a", "a", true)
	wantUnder(t, "a", "a/b", true)
	wantUnder(t, "a", "ab", false)
	wantUnder(t, "", "a", true)
	wantUnder(t, "a/b", "a", false)
}

// 5.1: which bytes a name may have, wherever they stand in it.
func TestNameBytes(t *testing.T) {
	for c := range 256 {
		b := string([]byte{byte(c)})
		may := strings.Contains(nameBytes, b)
		wantName(t, b, may && b != ".")
		for _, s := range []string{"a" + b, b + "a", "a" + b + "a", strings.Repeat("a", 63) + b, b + strings.Repeat("a", 63), ".." + b, b + ".."} {
			wantName(t, s, may)
		}
	}
	wantName(t, nameBytes[:64], true)
	wantName(t, nameBytes[2:], true)
	wantName(t, "é", false)
	wantName(t, "a\u2044b", false)
}

// 5.1: how long a name may be.
func TestNameLength(t *testing.T) {
	for n := range 300 {
		for _, b := range []string{"a", "Z", "0", "_", "-", "."} {
			wantName(t, strings.Repeat(b, n), n >= 1 && n <= 64 && (b != "." || n > 2))
		}
		wantName(t, strings.Repeat("/", n), false)
	}
	wantName(t, strings.Repeat("a", 1<<20), false)
}

// 5.1: the dots, and a / wherever it stands.
func TestNameDots(t *testing.T) {
	for _, s := range []string{"...", "....", ".a", "..a", "a.", "a..", ".-", "._", "-.", "-", "--", "_", "0", "a..b"} {
		wantName(t, s, true)
	}
	for _, s := range []string{"", ".", "..", "/", "//", "/a", "a/", "a/b", "./", "../", "/.", "/..", "./a", "../a", "a/.", "a/..", ". ", " .", ".\x00", "..\x00", " ", "\n", "a\n", "\xff"} {
		wantName(t, s, false)
	}
}

// 5.2: the names of paths.
func TestParseNames(t *testing.T) {
	wantNames(t, "a", "a")
	wantNames(t, "Z/0/-/_/a.b", "Z", "0", "-", "_", "a.b")
	wantNames(t, ".../.a/..a/a./a..", "...", ".a", "..a", "a.", "a..")
	wantNames(t, "a/a/a", "a", "a", "a")
	wantNames(t, nameBytes[:64]+"/"+nameBytes[2:], nameBytes[:64], nameBytes[2:])
}

// 5.2: a byte that is neither / nor one of a name's, wherever it stands.
func TestParseByte(t *testing.T) {
	for c := range 256 {
		b := string([]byte{byte(c)})
		for _, s := range []string{"a", "a/b", ".a/bc", "ab/.../c-d"} {
			for i := range len(s) + 1 {
				put := s[:i] + b + s[i:]
				wantAsListed(t, put)
				if !strings.Contains(nameBytes+"/", b) {
					wantWrong(t, put, i)
				}
			}
		}
	}
	wantWrong(t, "..\x00", 2)
	wantWrong(t, "a/.\x00", 3)
	wantWrong(t, "a/..é", 4)
	wantWrong(t, "\\", 0)
	wantWrong(t, "a\\b", 1)
}

// 5.2: the / behind an empty part; and the end of the text, if the last part is empty.
func TestParseEmpty(t *testing.T) {
	wantWrong(t, "/", 0)
	wantWrong(t, "//", 0)
	wantWrong(t, "/a/", 0)
	wantWrong(t, "ab///c", 3)
	wantWrong(t, "ab/c//", 5)
	wantWrong(t, "ab/c/", 5)
	wantWrong(t, "ab//", 3)
	wantWrong(t, joined(15, 2)+"/", 45)
	wantWrong(t, joined(15, 2)+"//", 45)
}

// 5.2: the 65th byte of a part, whichever part it is.
func TestParseLongName(t *testing.T) {
	long := strings.Repeat("y", 65)
	for _, s := range []string{"", "a/", "ab/c/", strings.Repeat("a/", 15)} {
		wantNames(t, s+long[1:], append(strings.Split(s, "/")[:strings.Count(s, "/")], long[1:])...)
		wantWrong(t, s+long, len(s)+64)
		wantWrong(t, s+long+"yy", len(s)+64)
		wantWrong(t, s+long+"/", len(s)+64)
		wantWrong(t, s+long+" ", len(s)+64)
		wantWrong(t, s+long[1:]+" ", len(s)+64)
		wantWrong(t, s+long[2:]+" y", len(s)+63)
		wantWrong(t, s+long[1:]+"/", len(s)+64+min(1, 15-strings.Count(s, "/")))
		wantWrong(t, s+strings.Repeat(".", 65), len(s)+64)
	}
}

// 5.2: the first byte of a part that is . or ..; what goes on with them is a name.
func TestParseDots(t *testing.T) {
	for _, dots := range []string{".", ".."} {
		for _, s := range []string{"", "a/", "ab/c/", ".../", strings.Repeat("a/", 15)} {
			wantWrong(t, s+dots, len(s))
			wantWrong(t, s+dots+"/", len(s))
			wantWrong(t, s+dots+"//", len(s))
			wantWrong(t, s+dots+"/a", len(s))
			wantWrong(t, s+dots+"/ ", len(s))
			wantWrong(t, s+dots+" ", len(s)+len(dots))
			wantNames(t, s+dots+"a", append(strings.Split(s, "/")[:strings.Count(s, "/")], dots+"a")...)
			wantNames(t, s+"..."+dots, append(strings.Split(s, "/")[:strings.Count(s, "/")], "..."+dots)...)
		}
	}
}

// 5.2: the / behind the sixteenth part.
func TestParseManyNames(t *testing.T) {
	for size := 1; size <= 15; size++ {
		wantNames(t, joined(16, size), strings.Split(joined(16, size), "/")...)
		for _, s := range []string{"/", "/a", "//", "/.", "/ ", "/" + joined(16, size)} {
			wantWrong(t, joined(16, size)+s, 16*size+15)
		}
		wantNames(t, joined(15, size), strings.Split(joined(15, size), "/")...)
	}
	wantWrong(t, strings.Repeat("a/", 15)+"/", 30)
	wantWrong(t, strings.Repeat("a/", 15)+"./", 30)
	wantWrong(t, strings.Repeat("a/", 15)+"b /", 31)
	wantWrong(t, strings.Repeat("a/", 200), 31)
}

// 5.2: the byte 255, and what stands at it or right ahead of it.
func TestParseLong(t *testing.T) {
	s := joined(4, 63) // 255 bytes
	wantNames(t, s, strings.Split(s, "/")...)
	wantNames(t, joined(16, 15), strings.Split(joined(16, 15), "/")...)
	for _, more := range []string{"x", "/", "/x", ".", " ", "\x00", "xx", "//"} {
		wantWrong(t, s+more, 255)
	}
	wantWrong(t, s[:254]+" ", 254)
	wantWrong(t, s[:254]+" x", 254)
	wantWrong(t, s+strings.Repeat("x", 1<<20), 255)

	s = joined(4, 62) + "/" // 252 bytes
	wantNames(t, s+"x..", append(slices.Repeat([]string{s[:62]}, 4), "x..")...)
	wantNames(t, s+"...", append(slices.Repeat([]string{s[:62]}, 4), "...")...)
	wantWrong(t, s+"x/", 254)
	wantWrong(t, s+"x/.", 254)
	wantWrong(t, s+"x//", 254)
	wantWrong(t, s+"xx/", 255) // the end of the text, and no byte of it
	wantWrong(t, s+"xx//", 255)
	wantWrong(t, s+"xx/.", 255)
	wantWrong(t, s+"xx/x", 255)
	wantWrong(t, s+"x/..", 254) // the first of its bytes is ahead of the byte 255
	wantWrong(t, s+"x/./", 254)
	wantWrong(t, s+"x/../x", 254)
	wantWrong(t, s+"x/..x", 255) // a name, which is not the fault
	wantWrong(t, s+"x/.x", 255)
	wantWrong(t, s+"x/...", 255)
	wantWrong(t, s+"x/.. ", 255)
	wantWrong(t, s+"x/. ", 255)
	wantWrong(t, s+"...x", 255)
	wantWrong(t, s+"../x", 252)
}

// 5.2: of several wrong places the least.
func TestParseLeast(t *testing.T) {
	wantWrong(t, "a//b/../ ", 2)
	wantWrong(t, "a/../b//", 2)
	wantWrong(t, "a b/..", 1)
	wantWrong(t, "a/.. /..", 4)
	wantWrong(t, strings.Repeat("a", 70)+"//", 64)
	wantWrong(t, strings.Repeat("a", 63)+"é"+strings.Repeat("a", 70), 63)
	wantWrong(t, strings.Repeat("a/", 15)+strings.Repeat("a", 70)+"/", 94)
	for _, s := range texts("a./ ", 8) {
		wantAsListed(t, s)
	}
}

// 5.2: texts that are right, or nearly so, and close to their bounds, against the list.
func TestParseByChance(t *testing.T) {
	r := rand.New(rand.NewSource(5))
	good := 0
	for range 200000 {
		b := []byte(chanceText(r))
		for k := r.Intn(3); k > 0 && len(b) > 0; k-- {
			b[r.Intn(len(b))] = "a./ /.\x00\xff"[r.Intn(8)]
		}
		wantAsListed(t, string(b))
		if len(places(string(b))) == 0 {
			good++
		}
	}
	if good < 10000 {
		t.Fatalf("of the texts but %d are paths", good)
	}
}

// chanceText: parts of which some are as long as they may be, or just longer, and some are dots.
func chanceText(r *rand.Rand) string {
	var parts []string
	most := []int{1, 3, 15, 30, 64, 66}[r.Intn(6)]
	for k := 1 + r.Intn(17); k > 0; k-- {
		switch r.Intn(8) {
		case 0:
			parts = append(parts, strings.Repeat(".", 1+r.Intn(4)))
		case 1:
			parts = append(parts, strings.Repeat("b", most))
		default:
			from := r.Intn(len(nameBytes))
			parts = append(parts, nameBytes[from:min(len(nameBytes), from+1+r.Intn(most))])
		}
	}
	return strings.Join(parts, "/")
}

// 5.3: the path of names, up to its bounds and one beyond each.
func TestText(t *testing.T) {
	wantText(t, "a", "a")
	wantText(t, "a/b/a", "a", "b", "a")
	wantText(t, ".../..a/-", "...", "..a", "-")
	long := strings.Repeat("x", 64)
	wantText(t, long, long)
	wantNoText(t, long+"x")
	for n := range 20 {
		names := slices.Repeat([]string{"x"}, n)
		if n < 1 || n > 16 {
			wantNoText(t, names...)
		} else {
			wantText(t, joined(n, 1), names...)
		}
	}
	wantText(t, joined(4, 63), slices.Repeat([]string{long[1:]}, 4)...)
	wantNoText(t, append(slices.Repeat([]string{long[1:]}, 3), long)...)
	wantNoText(t, slices.Repeat([]string{long}, 4)...)
	wantText(t, joined(16, 15), slices.Repeat([]string{long[:15]}, 16)...)
	wantNoText(t, append(slices.Repeat([]string{long[:15]}, 15), long[:16])...)
	wantNoText(t, append(slices.Repeat([]string{long[:15]}, 16), "x")...)
	wantNoText(t, append(slices.Repeat([]string{long[:1]}, 16), "")...)
	wantNoText(t, slices.Repeat([]string{"x"}, 100000)...)
	wantNoText(t)
	wantNoText(t, nil...)
	wantNoText(t, []string{}...)
}

// 5.3: one that is no name, wherever it stands.
func TestTextNoName(t *testing.T) {
	for _, s := range []string{"", ".", "..", "/", "a/b", "/a", "a/", "a/..", "a b", "é", "\x00", "a\n", strings.Repeat("x", 65), strings.Repeat("x", 1<<20)} {
		wantNoText(t, s)
		for n := 1; n <= 16; n++ {
			for i := range n {
				names := slices.Repeat([]string{"a"}, n)
				names[i] = s
				wantNoText(t, names...)
			}
		}
	}
}

// byParts is 5.4, part by part.
func byParts(a, b string) int {
	return slices.Compare(strings.Split(a, "/"), strings.Split(b, "/"))
}

// firstParts is 5.5, part by part.
func firstParts(a, b string) bool {
	p, q := strings.Split(a, "/"), strings.Split(b, "/")
	return a == "" || len(p) <= len(q) && slices.Equal(p, q[:len(p)])
}

// 5.4: the first parts that are unlike decide, byte by byte.
func TestOrder(t *testing.T) {
	wantOrder(t, "a", "b", -1)
	wantOrder(t, "a", "a", 0)
	wantOrder(t, "", "", 0)
	wantOrder(t, "", "/", -1)
	wantOrder(t, "/", "//", -1)
	wantOrder(t, "/", "a", -1)
	wantOrder(t, "/", "\x00", -1)
	wantOrder(t, "/z", "\x00", -1)
	wantOrder(t, "a/z", "a\x00", -1)
	wantOrder(t, "a/z", "a-", -1)
	wantOrder(t, "a/z", "a.", -1)
	wantOrder(t, "a/z", "a0", -1)
	wantOrder(t, "a/z", "aa", -1)
	wantOrder(t, "a/b/c", "a/b.c", -1)
	wantOrder(t, "a/b/c", "a/b/d", -1)
	wantOrder(t, "a/b", "a/b/c", -1)
	wantOrder(t, "a/", "a/b", -1)
	wantOrder(t, "a", "a/", -1)
	wantOrder(t, "a//", "a/b", -1)
	wantOrder(t, "B", "a", -1)
	wantOrder(t, "9", "A", -1)
	wantOrder(t, "a10", "a9", -1)
	wantOrder(t, "\x7f", "\x80", -1) // bytes, and not numbers with a sign
	wantOrder(t, "a", "\xff", -1)
	wantOrder(t, "z/\xff", "z/é", 1)
	wantOrder(t, strings.Repeat("x", 1<<20)+"a", strings.Repeat("x", 1<<20)+"b", -1)
	wantOrder(t, strings.Repeat("x/", 1<<20), strings.Repeat("x/", 1<<20)+"x", -1)
}

// 5.4: each byte against each other, at the beginning, in the midst and at the end of a part.
func TestOrderBytes(t *testing.T) {
	for c := range 256 {
		for d := range 256 {
			a, b := string([]byte{byte(c)}), string([]byte{byte(d)})
			for _, r := range [][2]string{{a, b}, {"p" + a, "p" + b}, {"p" + a + "q", "p" + b}, {"p/" + a + "/z", "p/" + b + "/a"}} {
				wantOrder(t, r[0], r[1], byParts(r[0], r[1]))
			}
		}
	}
}

// 5.5: the parts of a are the first parts of b.
func TestUnder(t *testing.T) {
	for _, r := range [][2]string{{"a", "a"}, {"a", "a/b"}, {"a", "a/b/c"}, {"a/b", "a/b"}, {"a/b", "a/b/c"}, {"a", "a/"}, {"a", "a//"}, {"a/", "a//b"}, {"/", "//"}, {"/", "/"}, {"/a", "/a/b"}, {"a//b", "a//b/c"}, {"é", "é/x"}, {"\x00", "\x00/"}, {".", "./a"}, {strings.Repeat("x/", 1<<20) + "x", strings.Repeat("x/", 1<<20) + "x/y"}} {
		wantUnder(t, r[0], r[1], true)
		if r[0] != r[1] {
			wantUnder(t, r[1], r[0], false)
		}
	}
	for _, r := range [][2]string{{"a", "ab"}, {"a", "a.b"}, {"a", "a-"}, {"a", "a0"}, {"a", "b"}, {"a", "b/a"}, {"a", "A/b"}, {"a/b", "a/bc"}, {"a/b", "a/bc/d"}, {"a/", "a/b"}, {"/", "/a"}, {"a/b", "a/c/b"}, {"b/c", "a/b/c"}, {"a", "\x00"}} {
		wantUnder(t, r[0], r[1], false)
		wantUnder(t, r[1], r[0], false)
	}
	for _, s := range []string{"", "a", "/", "/a", "//", "a/b", "\x00", "é", " "} {
		wantUnder(t, "", s, true)
		wantUnder(t, s, "", s == "")
		wantUnder(t, s, s, true)
	}
}

// 5.4, 5.5: of any texts, also of those that are no paths.
func TestAnyTexts(t *testing.T) {
	all := texts("a./\x00", 4)
	all = append(all, texts("-/\xff", 4)...)
	for _, a := range all {
		for _, b := range all {
			wantOrder(t, a, b, byParts(a, b))
			wantUnder(t, a, b, firstParts(a, b))
		}
	}
	r := rand.New(rand.NewSource(54))
	for range 100000 {
		a, b := chanceText(r), chanceText(r)
		if r.Intn(2) == 0 { // much in common
			b = a[:r.Intn(len(a)+1)] + b[r.Intn(len(b)+1):]
		}
		wantOrder(t, a, b, byParts(a, b))
		wantUnder(t, a, b, firstParts(a, b))
	}
}

// 5.6: Text of what Parse reads is the text, and Parse of what Text makes is the names.
func TestOneForm(t *testing.T) {
	read := 0
	for _, s := range append(texts("aZ./", 7), joined(4, 63), joined(16, 15), joined(16, 1), joined(3, 64)) {
		if names, err, _ := Parse(s); err == api.OK {
			wantText(t, s, names...)
			read++
		}
	}
	if read < 1000 {
		t.Fatalf("of the texts but %d are paths", read)
	}
	r := rand.New(rand.NewSource(56))
	made := 0
	for range 100000 {
		names := strings.Split(chanceText(r), "/")
		if k := r.Intn(8 * len(names)); k+1 < len(names) { // here and there a list that is no path's, though its text is one
			names = slices.Replace(slices.Clone(names), k, k+2, names[k]+"/"+names[k+1])
		}
		s, err := Text(names)
		noName := func(n string) bool { return len(places(n)) > 0 || strings.Contains(n, "/") }
		good := len(names) <= 16 && len(strings.Join(names, "/")) <= 255 && !slices.ContainsFunc(names, noName)
		if good != (err == api.OK) {
			t.Fatalf("Text(%q) = %q, %d", names, s, err)
		}
		if err == api.OK {
			wantNames(t, s, names...)
			made++
		}
	}
	if made < 10000 {
		t.Fatalf("of the lists but %d have a path", made)
	}
}

// 5.1, 5.2, 5.3: they are of one mind about what a name is.
func TestNameParseText(t *testing.T) {
	for _, s := range append(texts("a./ ", 6), strings.Repeat("a", 64), strings.Repeat("a", 65), strings.Repeat("a", 256)) {
		names, err, _ := Parse(s)
		_, none := Text([]string{s})
		if one := err == api.OK && len(names) == 1; Name(s) != one || (none == api.OK) != one {
			t.Fatalf("Name(%q) = %t, Parse: %q, %d, Text: %d", s, Name(s), names, err, none)
		}
	}
}

// 5.7: a total order, 0 only of a text and itself.
func TestTotal(t *testing.T) {
	all := texts("a./\xff", 3)
	for _, a := range all {
		for _, b := range all {
			n := Order(a, b)
			if n < -1 || n > 1 || n != -Order(b, a) || (n == 0) != (a == b) {
				t.Fatalf("Order(%q, %q) = %d, the other way %d", a, b, n, Order(b, a))
			}
			for _, c := range all {
				if n <= 0 && Order(b, c) <= 0 && Order(a, c) > 0 {
					t.Fatalf("%q, %q, %q: no order", a, b, c)
				}
			}
		}
	}
}

// 5.7: what lies under a text stands together, right behind it.
func TestTogether(t *testing.T) {
	all := append(texts("a./\x00", 5), texts("-/z", 5)...)
	slices.SortFunc(all, Order)
	all = slices.Compact(all)
	for at, x := range all {
		end := at
		for end < len(all) && Under(x, all[end]) {
			end++
		}
		for i, s := range all {
			if in := at <= i && i < end; Under(x, s) != in {
				t.Fatalf("Under(%q, %q) = %t, while the first and the last under it are %q and %q", x, s, !in, x, all[end-1])
			}
		}
	}
}

// 5.8: every call ends, and none panics, whatever bytes it is given.
func TestAnyBytes(t *testing.T) {
	r := rand.New(rand.NewSource(58))
	for range 20000 {
		b := make([]byte, r.Intn(600))
		r.Read(b)
		s := string(b)
		wantAsListed(t, s)
		wantName(t, s, len(places(s)) == 0 && !strings.Contains(s, "/"))
		Text(strings.Split(s, "/"))
		Text([]string{s, s})
		cut := s[:len(s)/2]
		wantOrder(t, s, cut, byParts(s, cut))
		wantUnder(t, cut, s, firstParts(cut, s))
	}
	for _, s := range []string{strings.Repeat("a", 1<<20), strings.Repeat("/", 1<<20), strings.Repeat("./", 1<<19), strings.Repeat("a/", 1<<19)} {
		wantAsListed(t, s)
		wantName(t, s, false)
		wantNoText(t, s)
		wantUnder(t, s, s, true)
		wantOrder(t, s, s+"/", -1)
	}
}

// 5.8: nothing is kept from call to call.
func TestNothingKept(t *testing.T) {
	for range 3 {
		wantNames(t, "a/b", "a", "b")
		wantWrong(t, "a/b/..", 4)
		wantText(t, "c/d", "c", "d")
		wantNoText(t, "c", "d", "")
		wantOrder(t, "a/b", "a.b", -1)
		wantUnder(t, "a", "a.b", false)
		wantWrong(t, "", 0)
		wantNoText(t)
	}
}

// 5.8: the list that is handed in is not changed, nor the room behind it.
func TestHandedIn(t *testing.T) {
	room := []string{"a", "b", "c", "d", "e"}
	was := slices.Clone(room)
	for n := range len(room) + 1 {
		s, err := Text(room[:n])
		if !slices.Equal(room, was) {
			t.Fatalf("Text of %d names: what was handed in is %q", n, room)
		}
		if n > 0 && (err != api.OK || s != strings.Join(was[:n], "/")) {
			t.Fatalf("Text(%q) = %q, %d", was[:n], s, err)
		}
	}
	room[1], was[1] = "..", ".."
	wantNoText(t, room[:3]...)
	if !slices.Equal(room, was) {
		t.Fatalf("behind a refusal what was handed in is %q", room)
	}
}

// 5.8: answers are new memory: no two share any, and what is put into one changes no other.
func TestHandedOut(t *testing.T) {
	for _, s := range []string{"a", "a/b/c", joined(4, 63), joined(16, 15), joined(15, 1)} {
		want := strings.Split(s, "/")
		first, _, _ := Parse(s)
		second, _, _ := Parse(s)
		full := first[:cap(first)]
		for i := range full {
			full[i] = "!"
		}
		_ = append(first, "?")
		if !slices.Equal(second, want) {
			t.Fatalf("Parse(%q): the other answer is %q", s, second)
		}
		wantNames(t, s, want...)
	}
}

// 5.8: an answer has no byte of what was handed in: these change behind the call, as no text of plain Go does.
func TestBytesHandedOut(t *testing.T) {
	for _, s := range []string{"a", "abc", "a/bc/d", joined(4, 63), joined(16, 15)} {
		b := []byte(s)
		want := strings.Split(s, "/")
		names, err, _ := Parse(unsafe.String(&b[0], len(b)))
		clear(b)
		if err != api.OK || !slices.Equal(names, want) {
			t.Fatalf("Parse(%q), changed behind the call: %q, %d", s, names, err)
		}
		var lent [][]byte
		var list []string
		for _, n := range want {
			lent = append(lent, []byte(n))
			list = append(list, unsafe.String(&lent[len(lent)-1][0], len(n)))
		}
		text, err := Text(list)
		for i := range lent {
			clear(lent[i])
			list[i] = "!"
		}
		if err != api.OK || text != s {
			t.Fatalf("Text(%q), changed behind the call: %q, %d", want, text, err)
		}
	}
}
