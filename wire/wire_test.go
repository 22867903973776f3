package wire

import (
	"bytes"
	"encoding/hex"
	"hash/crc32"
	"math"
	"math/rand"
	"slices"
	"strings"
	"testing"

	"kiln/api"
)

func unhex(t *testing.T, s string) []byte {
	t.Helper()
	b, err := hex.DecodeString(strings.ReplaceAll(s, " ", ""))
	if err != nil {
		t.Fatal(err)
	}
	return b
}

func join(parts ...[]byte) []byte { return bytes.Join(parts, nil) }

// edgeNumbers: the ends of every width in groups of seven bits and in bytes, and some in between.
func edgeNumbers() []uint64 {
	l := []uint64{0, 1, 2, 300, math.MaxInt64, math.MaxUint64, math.MaxUint64 - 1}
	for bit := range 64 {
		p := uint64(1) << bit
		l = append(l, p-1, p, p+1)
	}
	r := rand.New(rand.NewSource(1))
	for range 300 {
		l = append(l, r.Uint64()>>r.Intn(64))
	}
	return l
}

func edgeStrings() [][]byte {
	l := [][]byte{nil, {}, {0}, {0x80}, {0xff, 0x7f}, []byte("ab")}
	r := rand.New(rand.NewSource(2))
	for _, n := range []int{1, 3, 126, 127, 128, 129, 16383, 16384, 16385} {
		b := make([]byte, n)
		r.Read(b)
		l = append(l, b)
	}
	return l
}

// byteLen: how many bytes Fixed needs at least.
func byteLen(v uint64) int {
	n := 1
	for v >>= 8; v != 0; v >>= 8 {
		n++
	}
	return n
}

func TestUintWrites(t *testing.T) { // 1.1
	for _, x := range []struct {
		v    uint64
		want string
	}{
		{0, "00"},
		{1, "01"},
		{127, "7f"},
		{128, "80 01"},
		{300, "ac 02"},
		{1<<14 - 1, "ff 7f"},
		{1 << 14, "80 80 01"},
		{1<<63 - 1, "ff ff ff ff ff ff ff ff 7f"},
		{1 << 63, "80 80 80 80 80 80 80 80 80 01"},
		{1<<64 - 1, "ff ff ff ff ff ff ff ff ff 01"},
	} {
		if got := Uint(x.v); !bytes.Equal(got, unhex(t, x.want)) {
			t.Errorf("Uint(%d) = %x, want %s", x.v, got, x.want)
		}
	}
}

func TestUintLengthAndMarks(t *testing.T) { // 1.1
	for _, v := range edgeNumbers() {
		b := Uint(v)
		want := 1
		for w := v >> 7; w != 0; w >>= 7 {
			want++
		}
		if len(b) != want {
			t.Errorf("Uint(%d) has %d bytes, want %d", v, len(b), want)
		}
		for i, c := range b {
			if (c >= 128) != (i < len(b)-1) {
				t.Errorf("Uint(%d) = %x: highest bit of byte %d", v, b, i)
			}
		}
	}
}

func TestReadUintReads(t *testing.T) { // 1.1
	for _, x := range []struct {
		b    string
		at   int
		v    uint64
		next int
	}{
		{"05 ac 02 07", 1, 300, 3},
		{"05 ac 02 07", 0, 5, 1},
		{"05 ac 02 07", 2, 2, 3},
		{"00", 0, 0, 1},
		{"00 00", 1, 0, 2},
		{"80 01", 0, 128, 2},
		{"ff ff ff ff ff ff ff ff ff 01", 0, math.MaxUint64, 10},
		{"80 80 80 80 80 80 80 80 80 01 ff", 0, 1 << 63, 10},
	} {
		if v, next, err := ReadUint(unhex(t, x.b), x.at); v != x.v || next != x.next || err != api.OK {
			t.Errorf("ReadUint(%s, %d) = %d, %d, %d, want %d, %d, 0", x.b, x.at, v, next, err, x.v, x.next)
		}
	}
}

func TestReadUintRefuses(t *testing.T) { // 1.1
	nine := strings.Repeat("80", 9)
	for _, x := range []struct {
		b    string
		at   int
		want api.Errno
	}{
		{"", 0, api.ErrShort},
		{"80", 0, api.ErrShort},
		{"ac", 0, api.ErrShort},
		{"00", 1, api.ErrShort},
		{nine, 0, api.ErrShort},
		{"80 00", 0, api.ErrForm},
		{"ff 00", 0, api.ErrForm},
		{"80 80 00 01", 0, api.ErrForm},
		{"05 ac 80 00", 1, api.ErrForm},
		{nine + "00", 0, api.ErrForm},
		{nine + "02", 0, api.ErrWide},
		{nine + "7f", 0, api.ErrWide},
		{nine + "80", 0, api.ErrWide}, // told there, not behind it as ErrShort
		{nine + "81 00", 0, api.ErrWide},
		{strings.Repeat("ff", 11), 0, api.ErrWide},
		{"00", 2, api.ErrArg},
		{"", 1, api.ErrArg},
		{"00", -1, api.ErrArg},
		{"80", -1, api.ErrArg},
		{"80", math.MinInt, api.ErrArg},
		{"80", math.MaxInt, api.ErrArg},
	} {
		if v, next, err := ReadUint(unhex(t, x.b), x.at); v != 0 || next != 0 || err != x.want {
			t.Errorf("ReadUint(%s, %d) = %d, %d, %d, want 0, 0, %d", x.b, x.at, v, next, err, x.want)
		}
	}
}

func TestFixedWrites(t *testing.T) { // 1.2
	for _, x := range []struct {
		v    uint64
		n    int
		want string
		err  api.Errno
	}{
		{300, 2, "2c 01", api.OK},
		{300, 4, "2c 01 00 00", api.OK},
		{0, 1, "00", api.OK},
		{255, 1, "ff", api.OK},
		{0x0102030405060708, 8, "08 07 06 05 04 03 02 01", api.OK},
		{math.MaxUint64, 8, "ff ff ff ff ff ff ff ff", api.OK},
		{1<<56 - 1, 7, "ff ff ff ff ff ff ff", api.OK},
		{256, 1, "", api.ErrWide},
		{1 << 56, 7, "", api.ErrWide},
		{math.MaxUint64, 7, "", api.ErrWide},
		{0, 9, "", api.ErrArg},
		{0, 0, "", api.ErrArg},
		{256, 0, "", api.ErrArg},
		{math.MaxUint64, -1, "", api.ErrArg},
		{1, math.MinInt, "", api.ErrArg},
		{1, math.MaxInt, "", api.ErrArg},
	} {
		if got, err := Fixed(x.v, x.n); !bytes.Equal(got, unhex(t, x.want)) || err != x.err {
			t.Errorf("Fixed(%d, %d) = %x, %d, want %s, %d", x.v, x.n, got, err, x.want, x.err)
		}
	}
	for n := 1; n < 8; n++ {
		if b, err := Fixed(1<<(8*n)-1, n); len(b) != n || err != api.OK {
			t.Errorf("the greatest number of %d bytes: %x, %d", n, b, err)
		}
		if b, err := Fixed(1<<(8*n), n); len(b) != 0 || err != api.ErrWide {
			t.Errorf("the least number above %d bytes: %x, %d", n, b, err)
		}
	}
}

func TestReadFixed(t *testing.T) { // 1.2
	for _, x := range []struct {
		b     string
		at, n int
		v     uint64
		next  int
		err   api.Errno
	}{
		{"09 2c 01", 1, 2, 300, 3, api.OK},
		{"09 2c 01", 0, 1, 9, 1, api.OK},
		{"09 2c 01", 0, 3, 0x012c09, 3, api.OK},
		{"2c 01 00 00", 0, 4, 300, 4, api.OK},
		{"ff ff ff ff ff ff ff ff", 0, 8, math.MaxUint64, 8, api.OK},
		{"2c", 0, 2, 0, 0, api.ErrShort},
		{"2c", 1, 1, 0, 0, api.ErrShort},
		{"", 0, 8, 0, 0, api.ErrShort},
		{"09 2c 01", 1, 3, 0, 0, api.ErrShort},
		{"2c", 0, 0, 0, 0, api.ErrArg},
		{"2c", 0, 9, 0, 0, api.ErrArg},
		{"2c", 1, 9, 0, 0, api.ErrArg},
		{"00 00 00 00 00 00 00 00 00", 0, 9, 0, 0, api.ErrArg},
		{"2c", 0, -1, 0, 0, api.ErrArg},
		{"2c", 0, math.MinInt, 0, 0, api.ErrArg},
		{"2c", 0, math.MaxInt, 0, 0, api.ErrArg},
		{"2c", 2, 1, 0, 0, api.ErrArg},
		{"2c", -1, 1, 0, 0, api.ErrArg},
		{"2c", math.MaxInt, 8, 0, 0, api.ErrArg},
		{"2c", math.MinInt, 8, 0, 0, api.ErrArg},
	} {
		if v, next, err := ReadFixed(unhex(t, x.b), x.at, x.n); v != x.v || next != x.next || err != x.err {
			t.Errorf("ReadFixed(%s, %d, %d) = %d, %d, %d, want %d, %d, %d", x.b, x.at, x.n, v, next, err, x.v, x.next, x.err)
		}
	}
}

func TestBytesWrites(t *testing.T) { // 1.3
	for _, x := range []struct {
		b    []byte
		want string
	}{
		{[]byte("ab"), "02 61 62"},
		{nil, "00"},
		{[]byte{}, "00"},
		{[]byte{0}, "01 00"},
		{bytes.Repeat([]byte{7}, 127), "7f" + strings.Repeat("07", 127)},
		{bytes.Repeat([]byte{7}, 128), "80 01" + strings.Repeat("07", 128)},
	} {
		if got := Bytes(x.b); !bytes.Equal(got, unhex(t, x.want)) {
			t.Errorf("Bytes(%x) = %x, want %s", x.b, got, x.want)
		}
	}
}

func TestReadBytes(t *testing.T) { // 1.3
	nine := strings.Repeat("80", 9)
	for _, x := range []struct {
		b        string
		at, most int
		want     string
		next     int
		err      api.Errno
	}{
		{"02 61 62 63", 0, 2, "ab", 3, api.OK},
		{"02 61 62 63", 0, math.MaxInt, "ab", 3, api.OK},
		{"ff 02 61 62", 1, 2, "ab", 4, api.OK},
		{"00", 0, 0, "", 1, api.OK},
		{"01 00", 0, 1, "\x00", 2, api.OK},
		{"02 61", 0, 1, "", 0, api.ErrBig},
		{"02 61 62", 0, 1, "", 0, api.ErrBig},
		{"01", 0, 0, "", 0, api.ErrBig},
		{nine + "01", 0, math.MaxInt, "", 0, api.ErrBig}, // 2^63: above every int
		{"ff ff ff ff ff ff ff ff ff 01", 0, math.MaxInt, "", 0, api.ErrBig},
		{"ff ff ff ff ff ff ff ff 7f", 0, math.MaxInt, "", 0, api.ErrShort},
		{"02 61", 0, 2, "", 0, api.ErrShort},
		{"", 0, 9, "", 0, api.ErrShort},
		{"80", 0, 9, "", 0, api.ErrShort},
		{"02 61 62", 3, 9, "", 0, api.ErrShort},
		{"80 00", 0, 9, "", 0, api.ErrForm},
		{"82 00 61 62", 0, 0, "", 0, api.ErrForm}, // ahead of ErrBig
		{nine + "02", 0, 9, "", 0, api.ErrWide},
		{"80", 0, -1, "", 0, api.ErrArg},
		{"00", 0, -1, "", 0, api.ErrArg},
		{"02 61 62", 0, math.MinInt, "", 0, api.ErrArg},
		{"02 61 62", 4, 9, "", 0, api.ErrArg},
		{"02 61 62", -1, 9, "", 0, api.ErrArg},
		{"02 61 62", math.MaxInt, math.MaxInt, "", 0, api.ErrArg},
		{"02 61 62", math.MinInt, -1, "", 0, api.ErrArg},
	} {
		if got, next, err := ReadBytes(unhex(t, x.b), x.at, x.most); string(got) != x.want || next != x.next || err != x.err {
			t.Errorf("ReadBytes(%s, %d, %d) = %q, %d, %d, want %q, %d, %d", x.b, x.at, x.most, got, next, err, x.want, x.next, x.err)
		}
	}
}

// plainSum is the sum as the document words it, bit by bit.
func plainSum(b []byte) uint32 {
	register := uint32(0xffffffff)
	for _, c := range b {
		register ^= uint32(c)
		for range 8 {
			if register&1 != 0 {
				register = register>>1 ^ 0xedb88320
			} else {
				register >>= 1
			}
		}
	}
	return ^register
}

func TestSumKnown(t *testing.T) { // 1.4
	for _, x := range []struct {
		parts []string
		want  uint32
	}{
		{nil, 0},
		{[]string{""}, 0},
		{[]string{"", "", ""}, 0},
		{[]string{"123456789"}, 0xcbf43926},
		{[]string{"1234", "", "56789"}, 0xcbf43926},
		{[]string{"a"}, 0xe8b7be43},
	} {
		var parts [][]byte
		for _, p := range x.parts {
			parts = append(parts, []byte(p))
		}
		if got := Sum(parts...); got != x.want {
			t.Errorf("Sum(%q) = %08x, want %08x", x.parts, got, x.want)
		}
	}
	if got := Sum(nil, []byte("a"), nil); got != 0xe8b7be43 {
		t.Errorf("Sum(nil, a, nil) = %08x", got)
	}
}

func TestSumIsThatOfTheDocument(t *testing.T) { // 1.4
	for c := range 256 {
		b := []byte{byte(c)}
		if got := Sum(b); got != plainSum(b) {
			t.Errorf("Sum(%x) = %08x, want %08x", b, got, plainSum(b))
		}
	}
	for _, b := range edgeStrings() {
		if got := Sum(b); got != plainSum(b) || got != crc32.ChecksumIEEE(b) {
			t.Errorf("Sum of %d bytes = %08x, want %08x", len(b), got, plainSum(b))
		}
	}
}

var aheads = [][]byte{nil, {0x80}, {0xff, 0x00, 0x80}}
var behinds = [][]byte{nil, {0}, {0x80}, {0xff, 0xff}}

// everywhere calls try with bytes laid at a place, behind and ahead of others.
func everywhere(b []byte, try func(all []byte, at int)) {
	for _, ahead := range aheads {
		for _, behind := range behinds {
			try(join(ahead, b, behind), len(ahead))
		}
	}
}

func TestBackNumbers(t *testing.T) { // 1.5
	for _, v := range edgeNumbers() {
		b := Uint(v)
		everywhere(b, func(all []byte, at int) {
			if got, next, err := ReadUint(all, at); got != v || next != at+len(b) || err != api.OK {
				t.Errorf("ReadUint(%x, %d) = %d, %d, %d, want %d", all, at, got, next, err, v)
			}
		})
		for n := byteLen(v); n <= 8; n++ {
			b, err := Fixed(v, n)
			if err != api.OK {
				t.Fatalf("Fixed(%d, %d): %d", v, n, err)
			}
			everywhere(b, func(all []byte, at int) {
				if got, next, err := ReadFixed(all, at, n); got != v || next != at+n || err != api.OK {
					t.Errorf("ReadFixed(%x, %d, %d) = %d, %d, %d, want %d", all, at, n, got, next, err, v)
				}
			})
		}
	}
}

func TestBackStrings(t *testing.T) { // 1.5
	for _, s := range edgeStrings() {
		b := Bytes(s)
		for _, most := range []int{len(s), len(s) + 1, math.MaxInt} {
			everywhere(b, func(all []byte, at int) {
				if got, next, err := ReadBytes(all, at, most); !bytes.Equal(got, s) || next != at+len(b) || err != api.OK {
					t.Errorf("ReadBytes of %d bytes at %d, most %d: %d bytes, %d, %d", len(s), at, most, len(got), next, err)
				}
			})
		}
	}
}

// shortStrings: all byte strings of at most two bytes, and of three bytes those around the marks.
func shortStrings() [][]byte {
	l := [][]byte{nil}
	marks := []byte{0, 1, 2, 3, 0x7f, 0x80, 0x81, 0x82, 0xff}
	for a := range 256 {
		l = append(l, []byte{byte(a)})
		for b := range 256 {
			l = append(l, []byte{byte(a), byte(b)})
			for _, c := range marks {
				l = append(l, []byte{byte(a), byte(b), c})
			}
		}
	}
	return l
}

func TestOneFormOfWhatIsRead(t *testing.T) { // 1.6
	r := rand.New(rand.NewSource(3))
	l := shortStrings()
	for range 20000 { // long ones: highest bits set, so that a number goes on
		b := make([]byte, 8+r.Intn(4))
		for i := range b {
			b[i] = byte(r.Intn(256)) | 0x80
		}
		b[len(b)-1] = byte(r.Intn(3))
		l = append(l, b)
	}
	for _, b := range l {
		if v, next, err := ReadUint(b, 0); err == api.OK && !bytes.Equal(Uint(v), b[:next]) {
			t.Errorf("ReadUint(%x) reads %d to %d, which is written %x", b, v, next, Uint(v))
		}
		if s, next, err := ReadBytes(b, 0, 9); err == api.OK && !bytes.Equal(Bytes(s), b[:next]) {
			t.Errorf("ReadBytes(%x) reads %x to %d, which is written %x", b, s, next, Bytes(s))
		}
		for n := 1; n <= 8; n++ {
			v, next, err := ReadFixed(b, 0, n)
			if err != api.OK {
				continue
			}
			if w, err := Fixed(v, n); err != api.OK || !bytes.Equal(w, b[:next]) {
				t.Errorf("ReadFixed(%x, 0, %d) reads %d to %d, which is written %x", b, n, v, next, w)
			}
		}
	}
}

// noneBegins fails if one of the unlike writings is another one, or begins it: sorted, it would stand right ahead of one that it begins.
func noneBegins(t *testing.T, what string, written [][]byte) {
	t.Helper()
	slices.SortFunc(written, bytes.Compare)
	for i := 1; i < len(written); i++ {
		if bytes.HasPrefix(written[i], written[i-1]) {
			t.Errorf("%s: %x begins %x", what, written[i-1], written[i])
		}
	}
}

func TestOneFormOfEach(t *testing.T) { // 1.6
	numbers := edgeNumbers()
	slices.Sort(numbers)
	var uints [][]byte
	for _, v := range slices.Compact(numbers) {
		uints = append(uints, Uint(v))
	}
	noneBegins(t, "Uint", uints)

	all := append(shortStrings(), edgeStrings()...)
	slices.SortFunc(all, bytes.Compare)
	var written [][]byte
	for _, s := range slices.CompactFunc(all, bytes.Equal) {
		written = append(written, Bytes(s))
	}
	noneBegins(t, "Bytes", written)
}

func TestACutIsACut(t *testing.T) { // 1.7
	for _, v := range edgeNumbers() {
		b := Uint(v)
		for cut := range b {
			if got, next, err := ReadUint(b[:cut], 0); got != 0 || next != 0 || err != api.ErrShort {
				t.Errorf("ReadUint(%x) cut to %d = %d, %d, %d", b, cut, got, next, err)
			}
		}
		for n := byteLen(v); n <= 8; n++ {
			b, _ := Fixed(v, n)
			for cut := range b {
				if got, next, err := ReadFixed(b[:cut], 0, n); got != 0 || next != 0 || err != api.ErrShort {
					t.Errorf("ReadFixed(%x) cut to %d = %d, %d, %d", b, cut, got, next, err)
				}
			}
		}
	}
	for _, s := range edgeStrings() {
		b := Bytes(s)
		for cut := range b {
			if got, next, err := ReadBytes(b[:cut], 0, len(s)); len(got) != 0 || next != 0 || err != api.ErrShort {
				t.Errorf("ReadBytes of %d bytes cut to %d: %d bytes, %d, %d", len(s), cut, len(got), next, err)
			}
		}
	}
}

func TestSumHangsOnTheBytesAlone(t *testing.T) { // 1.8
	r := rand.New(rand.NewSource(4))
	for _, b := range edgeStrings() {
		want := Sum(b)
		for range 20 {
			i, j := r.Intn(len(b)+1), r.Intn(len(b)+1)
			if i > j {
				i, j = j, i
			}
			if got := Sum(b[:i], b[i:j], nil, b[j:]); got != want {
				t.Errorf("Sum of %d bytes cut at %d, %d = %08x, whole %08x", len(b), i, j, got, want)
			}
		}
		var single [][]byte
		for i := range b {
			single = append(single, b[i:i+1])
		}
		if got := Sum(single...); got != want {
			t.Errorf("Sum of %d single bytes = %08x, whole %08x", len(b), got, want)
		}
	}
}

func TestSumOfThree(t *testing.T) { // 1.8
	r := rand.New(rand.NewSource(5))
	for n := range 200 {
		x, y, z, laid := make([]byte, n), make([]byte, n), make([]byte, n), make([]byte, n)
		r.Read(x)
		r.Read(y)
		r.Read(z)
		for i := range laid {
			laid[i] = x[i] ^ y[i] ^ z[i]
		}
		if got, want := Sum(laid), Sum(x)^Sum(y)^Sum(z); got != want {
			t.Errorf("three strings of %d bytes: %08x, want %08x", n, got, want)
		}
	}
}

func flip(b []byte, bit int) { b[bit/8] ^= 1 << (bit % 8) }

// bitMarks: for each bit of a string of n zero bytes what turning it over changes in the sum; by 1.8 it changes the same in every string of n bytes, and several bits change the exclusive or of theirs.
func bitMarks(n int) []uint32 {
	b := make([]byte, n)
	zero := Sum(b)
	marks := make([]uint32, 8*n)
	for bit := range marks {
		flip(b, bit)
		marks[bit] = Sum(b) ^ zero
		flip(b, bit)
	}
	return marks
}

// stepDown is one bit step of the register: what a bit's mark is, of the mark of the bit behind it.
func stepDown(mark uint32) uint32 {
	if mark&1 != 0 {
		return mark>>1 ^ 0xedb88320
	}
	return mark >> 1
}

// As stepDown can be undone and is linear, marks that add up to 0 can be moved on till one of them is the last bit's: so it is enough to look at those. The marks of a shorter string are the last ones of a longer one's.
func TestUpToThreeBitsAreTold(t *testing.T) { // 1.9
	marks := bitMarks(4096)
	last := len(marks) - 1
	place := map[uint32]int{}
	for bit, m := range marks {
		if bit < last && m != stepDown(marks[bit+1]) {
			t.Fatalf("the mark of bit %d is not that of the next bit, a step on", bit)
		}
		if m == 0 {
			t.Errorf("bit %d alone is not told", bit)
		}
		if other, ok := place[m]; ok {
			t.Errorf("bits %d and %d are not told", other, bit)
		}
		place[m] = bit
	}
	for bit, m := range marks[:last] {
		if third, ok := place[m^marks[last]]; ok {
			t.Errorf("bits %d, %d and %d are not told", bit, third, last)
		}
	}
}

func TestSomeBitsAreToldInAnyString(t *testing.T) { // 1.9
	r := rand.New(rand.NewSource(6))
	for range 3000 {
		b := make([]byte, 1+r.Intn(r.Intn(4096)+1))
		r.Read(b)
		was := Sum(b)
		bits := r.Perm(8 * len(b))[:1+r.Intn(3)]
		for _, bit := range bits {
			flip(b, bit)
		}
		if Sum(b) == was {
			t.Errorf("%d bytes, bits %v turned over: not told", len(b), bits)
		}
	}
}

// independent tells whether no choice of the marks, but none, adds up to 0.
func independent(marks []uint32) bool {
	var basis [32]uint32
	for _, m := range marks {
		for bit := 31; bit >= 0 && m != 0; bit-- {
			if m>>bit&1 == 0 {
				continue
			}
			if basis[bit] == 0 {
				basis[bit] = m
				break
			}
			m ^= basis[bit]
		}
		if m == 0 {
			return false
		}
	}
	return true
}

func TestBurstsAreTold(t *testing.T) { // 1.9
	for _, n := range []int{1, 2, 3, 4, 5, 7, 64, 512, 5000} {
		marks := bitMarks(n)
		for from := range marks {
			if !independent(marks[from:min(from+32, len(marks))]) {
				t.Errorf("%d bytes: something within the 32 bits from %d on is not told", n, from)
			}
		}
	}
}

func TestBurstsAreToldInAnyString(t *testing.T) { // 1.9
	r := rand.New(rand.NewSource(7))
	for range 3000 {
		b := make([]byte, 4+r.Intn(20000))
		r.Read(b)
		was := Sum(b)
		from := r.Intn(8*len(b) - 31)
		burst := uint64(r.Uint32() | 1)
		for i := range 32 {
			if burst>>i&1 != 0 {
				flip(b, from+i)
			}
		}
		if Sum(b) == was {
			t.Errorf("%d bytes, %08x laid over them from bit %d on: not told", len(b), burst, from)
		}
	}
}

var oddInts = []int{math.MinInt, math.MinInt + 1, -9, -1, 0, 1, 2, 3, 7, 8, 9, 10, 11, 64, math.MaxInt - 1, math.MaxInt}

func TestNoCallPanics(t *testing.T) { // 1.10
	r := rand.New(rand.NewSource(8))
	l := [][]byte{nil, {}, {0}, {0x80}, bytes.Repeat([]byte{0x80}, 12), bytes.Repeat([]byte{0xff}, 12), append(bytes.Repeat([]byte{0xff}, 9), 1, 5)}
	for range 200 {
		b := make([]byte, r.Intn(12))
		r.Read(b)
		l = append(l, b)
	}
	for _, b := range l {
		Bytes(b)
		Sum(b, nil, b)
		for _, at := range oddInts {
			v, next, err := ReadUint(b, at)
			checkRead(t, b, at, next, err, v == 0)
			for _, n := range oddInts {
				v, next, err := ReadFixed(b, at, n)
				checkRead(t, b, at, next, err, v == 0)
				s, next, err := ReadBytes(b, at, n)
				checkRead(t, b, at, next, err, len(s) == 0)
			}
		}
	}
	for _, n := range oddInts {
		for _, v := range edgeNumbers() {
			if b, err := Fixed(v, n); err != api.OK && len(b) != 0 {
				t.Errorf("Fixed(%d, %d) = %x beside %d", v, n, b, err)
			}
		}
	}
}

// checkRead: an error comes alone, and what was read ends inside the bytes.
func checkRead(t *testing.T, b []byte, at, next int, err api.Errno, zero bool) {
	t.Helper()
	if err != api.OK && (!zero || next != 0) {
		t.Errorf("a Read of %x at %d: something beside %d", b, at, err)
	}
	if err == api.OK && (next <= at || next > len(b)) {
		t.Errorf("a Read of %x at %d: the place behind is %d", b, at, next)
	}
}

func TestArgumentsStay(t *testing.T) { // 1.10
	room := append([]byte{2, 'a', 'b'}, bytes.Repeat([]byte{0xee}, 40)...)
	was := bytes.Clone(room)
	b := room[:3]
	Bytes(b)
	Sum(b, b[:1])
	ReadUint(b, 0)
	ReadFixed(b, 0, 2)
	ReadBytes(b, 0, 9)
	ReadBytes(b, 0, 1)
	if !bytes.Equal(room, was) {
		t.Errorf("what was handed in, or the room behind it, is now %x", room)
	}
}

// spoil fills a list and its spare room.
func spoil(b []byte) {
	b = b[:cap(b)]
	for i := range b {
		b[i] ^= 0x55
	}
}

func TestAnswersAreNewMemory(t *testing.T) { // 1.10
	in := append([]byte{2, 'a', 'b', 'c'}, make([]byte, 20)...)
	was := bytes.Clone(in)
	calls := map[string]func() []byte{
		"Uint":      func() []byte { return Uint(300) },
		"Uint(0)":   func() []byte { return Uint(0) },
		"Fixed":     func() []byte { b, _ := Fixed(300, 3); return b },
		"Bytes":     func() []byte { return Bytes(in[1:3]) },
		"Bytes()":   func() []byte { return Bytes(in[:0]) },
		"ReadBytes": func() []byte { b, _, _ := ReadBytes(in, 0, 2); return b },
		"nothing":   func() []byte { b, _, _ := ReadBytes(in, 10, 2); return b },
	}
	for name, call := range calls {
		first := call()
		second := call()
		want := bytes.Clone(first)
		spoil(first)
		if !bytes.Equal(second, want) {
			t.Errorf("%s: two answers share memory", name)
		}
		if !bytes.Equal(in, was) {
			t.Errorf("%s: an answer shares memory with what was handed in", name)
			copy(in, was)
		}
		if third := call(); !bytes.Equal(third, want) {
			t.Errorf("%s: an answer that was changed is told again: %x", name, third)
		}
	}
}

func TestNothingIsKept(t *testing.T) { // 1.10
	b := []byte{2, 'a', 'b'}
	written := Bytes(b)
	read, _, _ := ReadBytes(b, 0, 2)
	sum := Sum(b)
	spoil(b)
	if string(written) != "\x03\x02ab" || string(read) != "ab" {
		t.Errorf("answers went along with what was handed in: %x, %x", written, read)
	}
	spoil(b)
	if Sum(b) != sum {
		t.Errorf("the same bytes have another sum: %08x, %08x", Sum(b), sum)
	}
}

func TestReadsLookAtNothingBehind(t *testing.T) { // the head of chapter 1
	number, fixed, text := Uint(300), []byte{1, 2, 3}, Bytes([]byte("ab"))
	for c := range 256 {
		behind := []byte{byte(c)}
		if v, next, err := ReadUint(join(number, behind), 0); v != 300 || next != 2 || err != api.OK {
			t.Errorf("ReadUint with %x behind: %d, %d, %d", behind, v, next, err)
		}
		if v, next, err := ReadFixed(join(fixed, behind), 0, 3); v != 0x030201 || next != 3 || err != api.OK {
			t.Errorf("ReadFixed with %x behind: %d, %d, %d", behind, v, next, err)
		}
		if s, next, err := ReadBytes(join(text, behind), 0, 2); string(s) != "ab" || next != 3 || err != api.OK {
			t.Errorf("ReadBytes with %x behind: %x, %d, %d", behind, s, next, err)
		}
	}
}
