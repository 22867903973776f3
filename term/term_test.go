package term

import (
	"crypto/sha256"
	"fmt"
	"math"
	"slices"
	"strings"
	"testing"

	"kiln/api"
)

// Terms as the tests write them.
func lit(s string) api.Term                    { return api.Term{Kind: api.TText, Text: s} }
func in(p string) api.Term                     { return api.Term{Kind: api.TIn, Text: p} }
func name(n string) api.Term                   { return api.Term{Kind: api.TVar, Text: n} }
func call(kind int, args ...api.Term) api.Term { return api.Term{Kind: kind, Args: args} }
func cats(args ...api.Term) api.Term           { return call(api.TCat, args...) }
func failing(a api.Term) api.Term              { return call(api.TFail, a) }
func ifs(a, b, c api.Term) api.Term            { return call(api.TIf, a, b, c) }
func part(a api.Term, n, m int) api.Term {
	return api.Term{Kind: api.TLines, N: n, M: m, Args: []api.Term{a}}
}
func eachs(n string, a, t api.Term) api.Term {
	return api.Term{Kind: api.TEach, Text: n, Args: []api.Term{a, t}}
}

// none of the Kinds.
var nothing = api.Term{}

// source: files with these paths and bytes, by turns.
func source(pairs ...string) []api.File {
	var l []api.File
	for i := 0; i < len(pairs); i += 2 {
		l = append(l, api.File{Path: pairs[i], Data: []byte(pairs[i+1])})
	}
	return l
}

// shown: what a message can show of a term.
func shown(x api.Term) string {
	s := fmt.Sprintf("%d %.70q", x.Kind, x.Text)
	if x.Kind == api.TLines {
		s += fmt.Sprintf(" %d %d", x.N, x.M)
	}
	for i, a := range x.Args {
		if len(s) > 1000 || i > 9 {
			return s + " .."
		}
		s += " (" + shown(a) + ")"
	}
	return s
}

func wantRun(t *testing.T, x api.Term, ins []api.File, budget int, want string, steps int) {
	t.Helper()
	v, n, err := Run(x, ins, budget)
	if string(v) != want || n != steps || err != api.OK {
		t.Fatalf("14.1: Run(%s, %d files, %d) = %.70q (%d bytes), %d, %d, want %.70q (%d bytes), %d, OK", shown(x), len(ins), budget, v, len(v), n, err, want, len(want), steps)
	}
}

func wantErr(t *testing.T, x api.Term, ins []api.File, budget int, want api.Errno) {
	t.Helper()
	v, n, err := Run(x, ins, budget)
	if len(v) != 0 || n != 0 || err != want {
		t.Fatalf("14.1: Run(%s, %d files, %d) = %.70q, %d, %d, want nothing, 0, %d", shown(x), len(ins), budget, v, n, err, want)
	}
}

// wantAsRead: Run answers as the plain reading of the chapter does.
func wantAsRead(t *testing.T, x api.Term, ins []api.File, budget int) {
	t.Helper()
	v, steps, err := runPlainly(x, ins, budget)
	if err == api.OK {
		wantRun(t, x, ins, budget, v, steps)
	} else {
		wantErr(t, x, ins, budget, err)
	}
}

// wantSteps: a run is OK from just so many steps on (14.2).
func wantSteps(t *testing.T, x api.Term, ins []api.File, want string, steps int) {
	t.Helper()
	for _, budget := range []int{steps, steps + 1, math.MaxInt} {
		wantRun(t, x, ins, budget, want, steps)
	}
	for _, budget := range []int{steps - 1, steps / 2, 1, 0, -1, math.MinInt} {
		if budget < steps {
			wantErr(t, x, ins, budget, api.ErrBudget)
		}
	}
}

// wantErrFrom: a run ends with an error from just so many steps on (14.2).
func wantErrFrom(t *testing.T, x api.Term, ins []api.File, want api.Errno, steps int) {
	t.Helper()
	for _, budget := range []int{steps, steps + 1, math.MaxInt} {
		wantErr(t, x, ins, budget, want)
	}
	for _, budget := range []int{steps - 1, steps / 2, 0, -1, math.MinInt} {
		wantErr(t, x, ins, budget, api.ErrBudget)
	}
}

// wantValue: with budget enough; the steps are others' matter.
func wantValue(t *testing.T, x api.Term, ins []api.File, want string) {
	t.Helper()
	if v, _, err := Run(x, ins, math.MaxInt); string(v) != want || err != api.OK {
		t.Fatalf("14.1: Run(%s) = %.70q (%d bytes), %d, want %.70q (%d bytes), OK", shown(x), v, len(v), err, want, len(want))
	}
}

// The chapter's examples.
func TestExamples(t *testing.T) {
	ins := source("f", "b\na\nb\n")
	wantSteps(t, lit(""), ins, "", 1)
	wantSteps(t, lit("abc"), ins, "abc", 2)
	wantSteps(t, in("f"), ins, "b\na\nb\n", 2)
	wantErrFrom(t, in("g"), ins, api.ErrUnknown, 1)
	wantSteps(t, cats(lit("a"), lit("b")), ins, "ab", 6)
	wantSteps(t, call(api.TUpper, lit("abc")), ins, "ABC", 5)
	wantSteps(t, call(api.TSort, in("f")), ins, "a\nb\nb\n", 5)
	wantSteps(t, call(api.TUniq, call(api.TSort, in("f"))), ins, "a\nb\n", 8)
	wantSteps(t, part(in("f"), 1, 2), ins, "a\n", 5)
	wantSteps(t, part(lit("a\nb"), 1, 9), ins, "b", 5)
	wantSteps(t, part(lit("a"), 2, 1), ins, "", 4)
	wantSteps(t, call(api.TReplace, lit("aaa"), lit("aa"), lit("b")), ins, "ba", 10)
	wantErr(t, call(api.TReplace, lit("a"), lit(""), failing(lit("x"))), ins, 99, api.ErrFailed)
	wantErr(t, call(api.TReplace, lit("a"), lit(""), lit("x")), ins, 99, api.ErrEmpty)
	wantSteps(t, call(api.TCount, lit("aaa"), lit("a")), ins, "3", 8)
	wantSteps(t, ifs(lit(""), failing(lit("x")), lit("b")), ins, "b", 5)
	wantSteps(t, eachs("l", in("f"), cats(name("l"), lit("-"))), ins, "b-a-b-", 22)
	wantSteps(t, call(api.TKey, lit("")), ins, "e3b0c44298fc1c149afbf4c8996fb92427ae41e4649b934ca495991b7852b855", 3)
	wantErrFrom(t, failing(lit("x")), ins, api.ErrFailed, 3)
	wantErrFrom(t, nothing, ins, api.ErrUnknown, 1)
}

// 14.1: ErrUnknown: a Kind that is none, whatever else the node has.
func TestNoKind(t *testing.T) {
	for _, kind := range []int{math.MinInt, -15, -1, 0, 16, 17, 256 + api.TText, 1 << 32, math.MaxInt} {
		for args := range 5 {
			x := call(kind, slices.Repeat([]api.Term{lit("a")}, args)...)
			x.Text, x.N, x.M = "f", 1, 2
			wantErrFrom(t, x, source("f", "a"), api.ErrUnknown, 1)
		}
	}
}

// 14.1: ErrUnknown: fewer or more arguments than a node must have, ahead of all of them.
func TestArguments(t *testing.T) {
	must := map[int][]int{
		api.TText: {0}, api.TIn: {0}, api.TVar: {0}, api.TCat: {1, 2, 3, 4, 5}, api.TUpper: {1}, api.TLower: {1}, api.TLines: {1}, api.TSort: {1}, api.TUniq: {1},
		api.TReplace: {3}, api.TCount: {2}, api.TIf: {3}, api.TEach: {2}, api.TKey: {1}, api.TFail: {1},
	}
	for kind := api.TText; kind <= api.TFail; kind++ {
		for args := range 6 {
			x := call(kind, slices.Repeat([]api.Term{lit("a")}, args)...)
			x.Text = "f"
			x = eachs("f", lit("a"), x) // as a name f is bound, as a path it is a file
			switch {
			case !slices.Contains(must[kind], args):
				wantErrFrom(t, x, source("f", "a"), api.ErrUnknown, 4)
				x.Args[1].Args = slices.Repeat([]api.Term{failing(lit(""))}, args)
				wantErrFrom(t, x, source("f", "a"), api.ErrUnknown, 4)
			case kind == api.TFail:
				wantErr(t, x, source("f", "a"), 99, api.ErrFailed)
			default:
				if _, _, err := Run(x, source("f", "a"), 99); err != api.OK {
					t.Errorf("14.1: Kind %d with %d arguments: %d", kind, args, err)
				}
			}
		}
	}
	wantErr(t, api.Term{Kind: api.TCat, Args: []api.Term{}}, nil, 9, api.ErrUnknown)
	wantRun(t, api.Term{Kind: api.TText, Text: "a", Args: []api.Term{}}, nil, 9, "a", 2)
}

// 14.1: what a Kind doesn't use of Text, N and M is not looked at.
func TestUnused(t *testing.T) {
	ins := source("f", "b\na\nb")
	terms := []api.Term{
		lit("a"), in("f"), name("x"), cats(in("f"), lit("a")), call(api.TUpper, in("f")), call(api.TLower, in("f")), part(in("f"), 1, 3), call(api.TSort, in("f")), call(api.TUniq, in("f")),
		call(api.TReplace, in("f"), lit("b"), lit("cc")), call(api.TCount, in("f"), lit("b")), ifs(in("f"), lit("a"), lit("b")), eachs("y", in("f"), name("y")), call(api.TKey, in("f")), failing(lit("")),
	}
	for i, x := range terms {
		if x.Kind != i+1 {
			t.Fatalf("the Kind %d is not asked", i+1)
		}
		v, steps, err := Run(eachs("x", lit("z"), x), ins, 999)
		if x.Kind != api.TLines {
			x.N, x.M = math.MinInt, math.MaxInt
		}
		if x.Kind > api.TVar && x.Kind != api.TEach {
			x.Text = strings.Repeat("no name\n", 40000)
		}
		w, same, e := Run(eachs("x", lit("z"), x), ins, 999)
		if string(v) != string(w) || same != steps || e != err {
			t.Errorf("14.1: Kind %d with other fields: %q, %d, %d, want %q, %d, %d", x.Kind, w, same, e, v, steps, err)
		}
	}
}

// 14.1: TIn: the first file of the path, which may be any text; nothing is asked of the others.
func TestIn(t *testing.T) {
	ins := source("g", "1", "f", "22", "", "333", "f", "4444", "../no path\n", "5", "F", "6", "f/g", "7", "e", "")
	wantSteps(t, in("f"), ins, "22", 2)
	wantSteps(t, in(""), ins, "333", 2)
	wantSteps(t, in("../no path\n"), ins, "5", 2)
	wantSteps(t, in("F"), ins, "6", 2)
	wantSteps(t, in("f/g"), ins, "7", 2)
	wantSteps(t, in("e"), ins, "", 1)
	wantSteps(t, in("e"), []api.File{{Path: "e"}}, "", 1)
	for _, p := range []string{"G", "f/", "/f", "f/g/h", "e\x00", " "} {
		wantErrFrom(t, in(p), ins, api.ErrUnknown, 1)
	}
	wantErrFrom(t, in(""), nil, api.ErrUnknown, 1)
	wantErrFrom(t, in("f"), []api.File{}, api.ErrUnknown, 1)
}

// 14.1: a name stands for what the innermost TEach of that name says in whose t it stands.
func TestNames(t *testing.T) {
	ab := lit("a\nb")
	wantErrFrom(t, name("x"), nil, api.ErrUnknown, 1)
	wantErrFrom(t, name(""), nil, api.ErrUnknown, 1)
	wantSteps(t, eachs("x", ab, name("x")), nil, "ab", 8)
	wantErrFrom(t, eachs("x", ab, name("y")), nil, api.ErrUnknown, 4)
	wantErrFrom(t, eachs("x", name("x"), lit("")), nil, api.ErrUnknown, 2)
	wantValue(t, eachs("", ab, name("")), nil, "ab")
	wantValue(t, eachs("no\nname/", ab, name("no\nname/")), nil, "ab")
	wantErr(t, eachs("X", ab, name("x")), nil, 99, api.ErrUnknown)

	// The inner one hides the outer one of its name, in its t alone.
	inner := eachs("x", lit("1\n2"), name("x"))
	wantValue(t, eachs("x", ab, inner), nil, "1212")
	wantValue(t, eachs("x", ab, cats(inner, name("x"), lit(","))), nil, "12a,12b,")
	wantValue(t, eachs("x", ab, eachs("x", cats(name("x"), lit("\n"), name("x")), cats(lit("<"), name("x"), lit(">")))), nil, "<a><a><b><b>")
	wantValue(t, eachs("x", ab, eachs("y", lit("1\n2"), cats(name("x"), name("y")))), nil, "a1a2b1b2")
	wantValue(t, eachs("x", ab, cats(eachs("x", lit(""), name("x")), name("x"))), nil, "ab")
	wantValue(t, eachs("x", ab, eachs("x", lit("1"), eachs("y", lit("2"), eachs("x", lit("3"), cats(name("x"), name("y")))))), nil, "3232")

	// Behind a TEach its name stands for nothing again.
	wantErrFrom(t, cats(eachs("x", lit("a"), name("x")), name("x")), nil, api.ErrUnknown, 8)
	wantErr(t, cats(eachs("x", lit(""), name("x")), name("x")), nil, 99, api.ErrUnknown)
	wantErr(t, eachs("y", lit("1"), cats(eachs("x", lit("a"), name("y")), name("x"))), nil, 99, api.ErrUnknown)
}

// 14.1: TUpper, TLower: the letters alone, of all bytes.
func TestCase(t *testing.T) {
	var all strings.Builder
	for b := range 256 {
		all.WriteByte(byte(b))
	}
	wantSteps(t, call(api.TUpper, in("f")), source("f", all.String()), mapPlainly(all.String(), small, big), 1+1+4+8)
	wantSteps(t, call(api.TLower, in("f")), source("f", all.String()), mapPlainly(all.String(), big, small), 1+1+4+8)
	wantSteps(t, call(api.TUpper, lit("")), nil, "", 2)
	wantSteps(t, call(api.TLower, lit("")), nil, "", 2)
	wantValue(t, call(api.TUpper, lit("aZ\u00e4\u00df\xffz")), nil, "AZ\u00e4\u00df\xffZ")
	wantValue(t, call(api.TLower, lit("aZ\u00c4K\xff\u212a")), nil, "az\u00c4k\xff\u212a")
}

// 14.1: TLines: numbers from N on, below M, each line as it stands.
func TestLines(t *testing.T) {
	a := "zero\n\ntwo\r\n\nfour"
	for _, r := range []struct {
		a    string
		n, m int
		want string
	}{
		{a, 0, 5, a}, {a, 0, 4, "zero\n\ntwo\r\n\n"}, {a, 1, 2, "\n"}, {a, 2, 4, "two\r\n\n"}, {a, 4, 5, "four"}, {a, 4, 9, "four"}, {a, 5, 9, ""}, {a, 2, 2, ""}, {a, 3, 1, ""},
		{a, -3, 1, "zero\n"}, {a, math.MinInt, math.MaxInt, a}, {a, math.MaxInt, math.MinInt, ""}, {a, -9, -1, ""}, {a, -1, 0, ""}, {a, 3, api.MaxNumber, "\nfour"},
		{"", 0, 9, ""}, {"\n", 0, 1, "\n"}, {"\n", 1, 2, ""}, {"\n\n", 1, 9, "\n"}, {"a", 0, 1, "a"}, {"a\n", 0, 1, "a\n"}, {"a\n", 1, 2, ""}, {"\na", 1, 2, "a"}, {"a\x00b\x0bc\x85d", 0, 1, "a\x00b\x0bc\x85d"},
	} {
		wantValue(t, part(lit(r.a), r.n, r.m), nil, r.want)
	}
	wantSteps(t, part(lit(strings.Repeat("a\n", 50)), 49, 50), nil, "a\n", 1+3+2+1)
}

// 14.1: TSort: by texts, byte by byte, a beginning ahead; each with its end.
func TestSort(t *testing.T) {
	for _, r := range [][2]string{
		{"", ""}, {"\n", "\n"}, {"a", "a\n"}, {"a\n", "a\n"}, {"b\na", "a\nb\n"}, {"b\na\n", "a\nb\n"}, {"ab\na\nb\naa\n\na", "\na\na\naa\nab\nb\n"}, {"a\n\nb\n\n", "\n\na\nb\n"},
		{"\xff\nz\n\x00\nZ\na\x00\na", "\x00\nZ\na\na\x00\nz\n\xff\n"}, {"a\x01\na\na\x00b", "a\na\x00b\na\x01\n"}, {"10\n9\n1", "1\n10\n9\n"}, {"b\r\na\r\n", "a\r\nb\r\n"},
		// A line's 0a stands behind many bytes that a text may have: it is not what is put in order.
		{"a\nb\na\tb\n", "a\na\tb\nb\n"}, {"a\t\na\n", "a\na\t\n"},
	} {
		wantValue(t, call(api.TSort, lit(r[0])), nil, r[1])
	}
	wantSteps(t, call(api.TSort, lit(strings.Repeat("b", 64))), nil, strings.Repeat("b", 64)+"\n", 1+2+1+2)
}

// 14.1: TUniq: the line right ahead alone counts.
func TestUniq(t *testing.T) {
	for _, r := range [][2]string{
		{"", ""}, {"\n", "\n"}, {"\n\n\n", "\n"}, {"a", "a\n"}, {"a\na", "a\n"}, {"a\na\n", "a\n"}, {"a\nb\na", "a\nb\na\n"}, {"a\na\nb\nb\nb\na\na", "a\nb\na\n"}, {"a\nA\na \na", "a\nA\na \na\n"}, {"\n\na\n\n", "\na\n\n"}, {"ab\na\nab", "ab\na\nab\n"},
	} {
		wantValue(t, call(api.TUniq, lit(r[0])), nil, r[1])
	}
	wantSteps(t, call(api.TUniq, lit(strings.Repeat("a\n", 33))), nil, "a\n", 1+3+2+1)
}

// 14.1: TReplace, TCount: the first from the left, then the first behind that.
func TestReplace(t *testing.T) {
	for _, r := range []struct {
		a, b, c, want string
		count         int
	}{
		{"", "a", "b", "", 0}, {"a", "a", "", "", 1}, {"a", "b", "c", "a", 0}, {"aaaa", "aa", "b", "bb", 2}, {"aaaaa", "aa", "b", "bba", 2}, {"abababa", "aba", "x", "xbx", 2}, {"aab", "ab", "b", "ab", 1}, {"ab", "b", "ab", "aab", 1},
		{"a.a", "a", "aa", "aa.aa", 2}, {"aXbXc", "X", "\n", "a\nb\nc", 2}, {"a\nb\n", "\n", "", "ab", 2}, {"a\nb\n", "a\nb", "x", "x\n", 1}, {"\u00e4\u00f6", "\xc3", "?", "?\xa4?\xb6", 2}, {"\xff\xfe\xff", "\xff", "\x00", "\x00\xfe\x00", 2}, {"$1", "$1", "$2", "$2", 1}, {"a", "aa", "b", "a", 0},
	} {
		wantValue(t, call(api.TReplace, lit(r.a), lit(r.b), lit(r.c)), nil, r.want)
		wantValue(t, call(api.TCount, lit(r.a), lit(r.b)), nil, fmt.Sprint(r.count))
	}
	long := strings.Repeat("ab", 65)
	wantSteps(t, call(api.TReplace, lit(long), lit(long[:65]), lit(long)), nil, long+long[65:], 1+4+3+4+3+2+4) // c is not looked at
	wantSteps(t, call(api.TCount, lit(long), lit("ab")), nil, "65", 1+4+2+3+1+1)
	wantSteps(t, call(api.TCount, lit(""), lit("ab")), nil, "0", 1+1+2+0+1+1)
	wantSteps(t, call(api.TReplace, lit("a"), lit("a"), lit("")), nil, "", 1+2+2+1+1+1)
}

// 14.1: ErrEmpty: of b no byte, or more than 255; behind all arguments, ahead of the steps of what is looked at.
func TestPattern(t *testing.T) {
	long := strings.Repeat("b", api.MaxPattern)
	for _, b := range []string{"", long + "b", strings.Repeat("b", 300), strings.Repeat("b", 70000)} {
		n := 1 + (len(b)+63)/64
		wantErrFrom(t, call(api.TCount, lit("a"), lit(b)), nil, api.ErrEmpty, 1+2+n)
		wantErrFrom(t, call(api.TReplace, lit("a"), lit(b), lit("c")), nil, api.ErrEmpty, 1+2+n+2)
		wantErrFrom(t, call(api.TReplace, lit("a"), lit(b), failing(lit(""))), nil, api.ErrFailed, 1+2+n+2)
		wantErrFrom(t, call(api.TReplace, lit("a"), lit(b), nothing), nil, api.ErrUnknown, 1+2+n+1)
		wantErrFrom(t, call(api.TCount, failing(lit("")), lit(b)), nil, api.ErrFailed, 3)
		wantErr(t, call(api.TCount, lit(""), lit(b)), nil, math.MaxInt, api.ErrEmpty)
		wantErr(t, call(api.TReplace, lit(""), lit(b), lit("")), nil, math.MaxInt, api.ErrEmpty)
	}
	wantValue(t, call(api.TCount, lit(long+"a"+long), lit(long)), nil, "2")
	wantValue(t, call(api.TReplace, lit(long+"a"+long), lit(long), lit("c")), nil, "cac")
}

// 14.1: TIf: one byte is enough, whatever it is; the other one is not run, whatever is wrong with it.
func TestIf(t *testing.T) {
	for _, a := range []string{"a", "\x00", "\n", "0", " "} {
		wantSteps(t, ifs(lit(a), lit("b"), nothing), nil, "b", 1+2+2+1)
	}
	wantSteps(t, ifs(lit(""), nothing, lit("c")), nil, "c", 1+1+2+1)
	wantSteps(t, ifs(lit(""), lit("b"), lit("")), nil, "", 3)
	wantSteps(t, ifs(lit("a"), lit(""), lit("c")), nil, "", 1+2+1)
	wantErrFrom(t, ifs(nothing, lit("b"), lit("c")), nil, api.ErrUnknown, 2)
	wantErrFrom(t, ifs(lit("a"), nothing, lit("c")), nil, api.ErrUnknown, 4)
	wantErrFrom(t, ifs(lit(""), lit("b"), in("c")), nil, api.ErrUnknown, 3)
	wantValue(t, ifs(lit(""), call(99), ifs(lit(""), in("no"), ifs(lit("a"), lit("b"), name("no")))), nil, "b")
	long := strings.Repeat("a", 300)
	wantSteps(t, ifs(lit(long), lit(long), lit("")), nil, long, 1+6+6+5) // a is not looked at, but its own value is paid
}

// 14.1: TEach: for each line, from the first on; of no line t is not run.
func TestEach(t *testing.T) {
	angled := cats(lit("<"), name("x"), lit(">"))
	for _, r := range [][2]string{
		{"", ""}, {"\n", "<>"}, {"a", "<a>"}, {"a\n", "<a>"}, {"a\n\n", "<a><>"}, {"b\na\nb", "<b><a><b>"}, {"\na", "<><a>"}, {"a\r\nb\r", "<a\r><b\r>"}, {"\n\n\n", "<><><>"},
	} {
		wantValue(t, eachs("x", lit(r[0]), angled), nil, r[1])
	}
	wantSteps(t, eachs("x", lit(""), nothing), nil, "", 2)
	wantErrFrom(t, eachs("x", lit("\n"), nothing), nil, api.ErrUnknown, 1+2+1)
	wantErrFrom(t, eachs("x", failing(lit("")), nothing), nil, api.ErrFailed, 3)
	// The first line for which t is wrong ends it, behind those ahead.
	onlyFull := ifs(name("x"), lit("."), failing(lit("")))
	wantErrFrom(t, eachs("x", lit("a\na\n\n"), onlyFull), nil, api.ErrFailed, 1+2+2*6+4)
	wantErrFrom(t, eachs("x", lit("\na\na\n"), onlyFull), nil, api.ErrFailed, 1+2+4)
	wantSteps(t, eachs("x", lit(strings.Repeat("\n", 65)), name("x")), nil, "", 1+3+65)
	wantSteps(t, eachs("x", lit(strings.Repeat("\n", 65)), lit("a")), nil, strings.Repeat("a", 65), 1+3+65*2+2)
}

// 14.1: TKey.
func TestKey(t *testing.T) {
	for _, n := range []int{0, 1, 55, 56, 63, 64, 65, 1000, api.MaxFile} {
		a := strings.Repeat("k", n)
		up := (n + 63) / 64
		wantSteps(t, call(api.TKey, in("f")), source("f", a), fmt.Sprintf("%x", sha256.Sum256([]byte(a))), 1+1+up+up+1)
	}
	var all []byte
	for b := range 256 {
		all = append(all, byte(b))
		wantValue(t, call(api.TKey, in("f")), []api.File{{Path: "f", Data: all}}, fmt.Sprintf("%x", sha256.Sum256(all)))
	}
}

// 14.1: TFail: behind its argument, whose steps are taken and whose faults come first.
func TestFail(t *testing.T) {
	wantErrFrom(t, failing(lit("")), nil, api.ErrFailed, 2)
	wantErrFrom(t, failing(lit(strings.Repeat("a", 65))), nil, api.ErrFailed, 4)
	wantErrFrom(t, failing(nothing), nil, api.ErrUnknown, 2)
	wantErrFrom(t, failing(failing(lit("a"))), nil, api.ErrFailed, 4)
	wantErrFrom(t, cats(failing(lit("a")), nothing), nil, api.ErrFailed, 4)
	wantErrFrom(t, cats(nothing, failing(lit("a"))), nil, api.ErrUnknown, 2)
	wantErrFrom(t, call(api.TCount, lit("a"), failing(lit("a"))), nil, api.ErrFailed, 6)
}

// 14.1: a step for each 64 bytes, begun ones too.
func TestBegun64s(t *testing.T) {
	for _, n := range []int{0, 1, 2, 63, 64, 65, 127, 128, 129, 4095, 4096, 4097} {
		a, up := strings.Repeat("a", n), up(n)
		ins := source("f", a)
		wantSteps(t, lit(a), nil, a, 1+up)
		wantSteps(t, in("f"), ins, a, 1+up)
		wantSteps(t, cats(in("f")), ins, a, 2+2*up)
		wantSteps(t, call(api.TUpper, in("f")), ins, strings.ToUpper(a), 2+3*up)
		wantSteps(t, call(api.TLower, in("f")), ins, a, 2+3*up)
		wantSteps(t, part(in("f"), 0, 1), ins, a, 2+3*up)
		wantSteps(t, part(in("f"), 1, 2), ins, "", 2+2*up)
		wantSteps(t, eachs("x", in("f"), lit("")), ins, "", 2+up+min(n, 1))
		wantSteps(t, eachs("x", in("f"), name("x")), ins, a, 2+2*up+min(n, 1)*(1+up))
		wantSteps(t, call(api.TCount, in("f"), lit("b")), ins, "0", 2+2*up+2+1+1)
	}
}
