package term

import (
	"math"
	"strings"
	"testing"

	"kiln/api"
)

const most = api.MaxFile

// up: the begun 64s of a number of bytes.
func up(n int) int { return (n + 63) / 64 }

// file: a file f of so many bytes a.
func file(n int) []api.File { return source("f", strings.Repeat("a", n)) }

// 14.1: ErrValue: a text or an input of more than MaxFile bytes, ahead of the steps of its value.
func TestLongLeaves(t *testing.T) {
	full := strings.Repeat("a", most)
	wantSteps(t, lit(full), nil, full, 1+most/64)
	wantSteps(t, in("f"), file(most), full, 1+most/64)
	for _, n := range []int{most + 1, most + 64, 2 * most, 40 * most} {
		wantErrFrom(t, lit(strings.Repeat("a", n)), nil, api.ErrValue, 1)
		wantErrFrom(t, in("f"), file(n), api.ErrValue, 1)
		wantErrFrom(t, failing(in("f")), file(n), api.ErrValue, 2)
		wantRun(t, ifs(lit("a"), lit("b"), in("f")), file(n), 9, "b", 6)
		wantRun(t, lit("b"), file(n), 9, "b", 2)
	}
}

// 14.1: a TCat is ErrValue behind the argument that makes it too long, ahead of the next one.
func TestLongCat(t *testing.T) {
	half := most / 2
	one := 1 + half/64 // steps of in(f)
	wantSteps(t, cats(in("f"), in("f")), file(half), strings.Repeat("a", most), 1+2*one+most/64)
	wantSteps(t, cats(lit(""), in("f"), lit(""), in("f"), lit("")), file(half), strings.Repeat("a", most), 1+2*one+3+most/64)
	for _, behind := range []api.Term{lit("b"), nothing, failing(lit("")), in("g"), lit(strings.Repeat("b", most+1))} {
		wantErrFrom(t, cats(in("f"), in("f"), lit("x"), behind), file(half), api.ErrValue, 1+2*one+2)
		wantErrFrom(t, cats(cats(in("f"), in("f"), lit("x")), behind), file(half), api.ErrValue, 2+2*one+2)
	}
	wantErrFrom(t, cats(in("f"), in("f"), lit("x")), file(half), api.ErrValue, 1+2*one+2)
	wantErrFrom(t, cats(in("f"), in("f"), in("f")), file(half), api.ErrValue, 1+3*one)
	wantErrFrom(t, cats(in("f"), in("f"), failing(lit("")), lit("x")), file(half), api.ErrFailed, 1+2*one+2)
	wantErrFrom(t, cats(in("f"), in("f"), lit(""), nothing), file(half), api.ErrUnknown, 1+2*one+2)
	wantErrFrom(t, cats(lit("x"), in("f")), file(most), api.ErrValue, 1+2+1+most/64)
}

// 14.1: a TEach is ErrValue behind the line that makes it too long, ahead of the next one.
func TestLongEach(t *testing.T) {
	half := most / 2
	one := 1 + half/64
	x := ifs(name("x"), in("f"), failing(lit(""))) // fails at an empty line
	whole := 1 + 2 + one + half/64                 // steps of x at a line of one byte
	wantSteps(t, eachs("x", lit("1\n2"), x), file(half), strings.Repeat("a", most), 1+2+2*whole+most/64)
	wantErrFrom(t, eachs("x", lit("1\n2\n3\n\n"), x), file(half), api.ErrValue, 1+2+3*whole)
	wantErrFrom(t, eachs("x", lit("1\n2\n\n3"), x), file(half), api.ErrFailed, 1+2+2*whole+4)
	wantErrFrom(t, eachs("x", lit("1\n2\n3"), x), file(half), api.ErrValue, 1+2+3*whole)
	// As many lines as there may be, each of one byte; and t makes of each one more.
	lines := strings.Repeat("\n", most)
	wantValue(t, eachs("x", in("f"), lit("b")), source("f", lines), strings.Repeat("b", most))
	wantErr(t, eachs("x", in("f"), lit("bb")), source("f", lines), math.MaxInt, api.ErrValue)
	wantErrFrom(t, eachs("x", in("f"), ifs(lit("b"), in("g"), nothing)), append(source("f", lines), source("g", strings.Repeat("g", most))...), api.ErrValue, 1+1+up(most)+2*(1+2+1+2*up(most)))
}

// 14.1: the last line gets an end: so TSort and TUniq may be too long by one byte.
func TestLongLines(t *testing.T) {
	for _, kind := range []int{api.TSort, api.TUniq} {
		for _, a := range []string{strings.Repeat("a", most), "a\n" + strings.Repeat("b", most-2)} {
			wantErrFrom(t, call(kind, in("f")), source("f", a), api.ErrValue, 1+1+up(most))
			wantSteps(t, call(kind, in("f")), source("f", a[:most-1]), a[:most-1]+"\n", 1+1+2*up(most-1)+up(most))
		}
		whole := "a\n" + strings.Repeat("b", most-3) + "\n"
		wantSteps(t, call(kind, in("f")), source("f", whole), whole, 1+1+3*up(most))
	}
	// A last line that is not told can't make it too long.
	line := strings.Repeat("a", most/2-1)
	twice := "\n" + line + "\n" + line
	wantSteps(t, call(api.TUniq, in("f")), source("f", twice), "\n"+line+"\n", 1+1+2*up(most)+up(most/2+1))
	wantErrFrom(t, call(api.TSort, in("f")), source("f", twice), api.ErrValue, 1+1+up(most))
	// As many lines as there may be.
	wantValue(t, call(api.TSort, in("f")), source("f", strings.Repeat("b\na\n", most/4)), strings.Repeat("a\n", most/4)+strings.Repeat("b\n", most/4))
	wantValue(t, call(api.TSort, in("f")), source("f", strings.Repeat("\n", most)), strings.Repeat("\n", most))
	wantValue(t, call(api.TUniq, in("f")), source("f", strings.Repeat("\n", most)), "\n")
	wantValue(t, part(in("f"), most-2, most+2), source("f", strings.Repeat("\n", most)), "\n\n")
}

// 14.1: a TReplace is ErrValue behind all its arguments, ahead of the steps of what it looks at, however long it would get.
func TestLongReplace(t *testing.T) {
	a, c := strings.Repeat("a", 1024), strings.Repeat("c", 256)
	wantSteps(t, call(api.TReplace, lit(a), lit("a"), lit(c)), nil, strings.Repeat("c", most), 1+17+2+5+16+1+most/64)
	wantErrFrom(t, call(api.TReplace, lit(a), lit("a"), lit(c+"c")), nil, api.ErrValue, 1+17+2+6)
	wantErrFrom(t, call(api.TReplace, lit(a+"b"), lit("a"), lit(c)), nil, api.ErrValue, 1+18+2+5)
	wantErrFrom(t, call(api.TReplace, in("f"), lit("a"), in("f")), file(most), api.ErrValue, 1+2*(1+most/64)+2)
	wantErrFrom(t, call(api.TReplace, in("f"), lit("a"), lit("aa")), file(most), api.ErrValue, 1+1+most/64+2+2)
	wantErrFrom(t, call(api.TReplace, in("f"), lit(""), in("f")), file(most), api.ErrEmpty, 1+2*(1+most/64)+1)
	wantSteps(t, call(api.TReplace, in("f"), lit("a"), lit("b")), file(most), strings.Repeat("b", most), 1+1+most/64+2+2+most/64+1+most/64)
	wantSteps(t, call(api.TReplace, in("f"), lit("aa"), lit("")), file(most), "", 1+1+most/64+2+1+most/64+1)
	wantSteps(t, call(api.TReplace, in("f"), lit("b"), in("f")), file(most), strings.Repeat("a", most), 1+2*(1+most/64)+2+most/64+1+most/64)
	wantSteps(t, call(api.TCount, in("f"), lit("a")), file(most), "262144", 1+1+most/64+2+most/64+1+1)
}

// 14.1: values of MaxFile bytes go through all other nodes.
func TestFullValues(t *testing.T) {
	full := strings.Repeat("a", most)
	wantSteps(t, call(api.TUpper, in("f")), file(most), strings.Repeat("A", most), 2+3*most/64)
	wantSteps(t, call(api.TLower, in("f")), file(most), full, 2+3*most/64)
	wantSteps(t, part(in("f"), 0, 1), file(most), full, 2+3*most/64)
	wantSteps(t, ifs(in("f"), in("f"), nothing), file(most), full, 3+3*most/64)
	wantSteps(t, eachs("x", in("f"), name("x")), file(most), full, 3+3*most/64)
	wantErrFrom(t, failing(in("f")), file(most), api.ErrFailed, 2+most/64)
}
