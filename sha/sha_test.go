package sha

import (
	"bytes"
	"crypto/sha256"
	"encoding"
	"encoding/binary"
	"encoding/hex"
	"hash"
	"math/rand"
	"slices"
	"strings"
	"testing"

	"kiln/api"
)

func key(t *testing.T, s string) api.Key {
	t.Helper()
	b, err := hex.DecodeString(strings.ReplaceAll(s, " ", ""))
	if err != nil || len(b) != len(api.Key{}) {
		t.Fatalf("no key: %s", s)
	}
	return api.Key(b)
}

// want: the hash by the library's own code.
func want(b []byte) api.Key { return api.Key(sha256.Sum256(b)) }

func random(r *rand.Rand, n int) []byte {
	b := make([]byte, n)
	r.Read(b)
	return b
}

// cut: the bytes in pieces of chance lengths, empty ones among them.
func cut(r *rand.Rand, b []byte) [][]byte {
	var pieces [][]byte
	for len(b) > 0 {
		n := 0
		switch r.Intn(4) {
		case 1:
			n = r.Intn(4)
		case 2:
			n = 62 + r.Intn(5)
		case 3:
			n = r.Intn(300)
		}
		n = min(n, len(b))
		pieces = append(pieces, b[:n])
		b = b[n:]
	}
	return append(pieces, nil, []byte{})
}

func TestSumExamples(t *testing.T) { // 2.1
	abc := key(t, "ba7816bf 8f01cfea 414140de 5dae2223 b00361a3 96177a9c b410ff61 f20015ad")
	for _, x := range []struct {
		name  string
		parts [][]byte
		want  api.Key
	}{
		{"no part", nil, key(t, "e3b0c442 98fc1c14 9afbf4c8 996fb924 27ae41e4 649b934c a495991b 7852b855")},
		{"abc", [][]byte{[]byte("abc")}, abc},
		{"a, nothing, bc", [][]byte{[]byte("a"), nil, []byte("bc")}, abc},
		{"56 bytes", [][]byte{[]byte("abcdbcdecdefdefgefghfghighijhijkijkljklmklmnlmnomnopnopq")},
			key(t, "248d6a61 d20638b8 e5c02693 0c3e6039 a33ce459 64ff2167 f6ecedd4 19db06c1")},
		{"a million a", [][]byte{bytes.Repeat([]byte("a"), 1000000)},
			key(t, "cdc76e5c 9914fb92 81a1c7e2 84d73e67 f1809a48 a497200e 046d39cc c7112cd0")},
	} {
		if got := Sum(x.parts...); got != x.want {
			t.Errorf("Sum of %s = %x", x.name, got)
		}
	}
}

func TestSumOfNothing(t *testing.T) { // 2.1
	for i, got := range []api.Key{Sum(), Sum(nil), Sum([]byte{}), Sum(nil, nil, []byte{})} {
		if got != want(nil) {
			t.Errorf("%d: Sum of nothing = %x", i, got)
		}
	}
}

func TestSumOfEveryLength(t *testing.T) { // 2.1: the ends of blocks among them
	r := rand.New(rand.NewSource(1))
	for n := range 700 {
		b := random(r, n)
		for _, x := range [][]byte{b, make([]byte, n), bytes.Repeat([]byte{0x80}, n), bytes.Repeat([]byte{0xff}, n)} {
			if Sum(x) != want(x) {
				t.Fatalf("Sum of %d bytes = %x, want %x", n, Sum(x), want(x))
			}
		}
	}
}

func TestSumOfParts(t *testing.T) { // 2.1, 2.6
	r := rand.New(rand.NewSource(2))
	for n := range 400 {
		b := random(r, n)
		if got := Sum(cut(r, b)...); got != want(b) || got != Sum(b) {
			t.Fatalf("Sum of %d bytes in parts = %x", n, got)
		}
	}
	for at := range 200 { // one cut, at every place
		b := random(r, 199)
		if Sum(b[:at], b[at:]) != want(b) {
			t.Errorf("Sum of 199 bytes, cut at %d", at)
		}
	}
}

// withLength: a Hash and the library's, both behind the same words and rest, as if so many bytes had come (whole blocks, and the rest).
func withLength(t *testing.T, rest []byte, blocks int) (*Hash, hash.Hash) {
	t.Helper()
	h, other := New(), sha256.New()
	h.Write(rest)
	other.Write(rest)
	h.length += blockSize * blocks
	state, err := other.(encoding.BinaryMarshaler).MarshalBinary()
	if err != nil {
		t.Fatal(err)
	}
	binary.BigEndian.PutUint64(state[len(state)-8:], uint64(h.length))
	if err := other.(encoding.BinaryUnmarshaler).UnmarshalBinary(state); err != nil {
		t.Fatal(err)
	}
	return h, other
}

func TestCountOfBitsBeyondOneWord(t *testing.T) { // 2.1, 2.4: 8 L takes more than 32 bits
	for _, blocks := range []int{1 << 8, 1<<23 - 1, 1 << 23, 1<<25 - 1, 1 << 50} {
		h, other := withLength(t, []byte("kiln"), blocks)
		for range 3 {
			if got := h.Key(); got != api.Key(other.Sum(nil)) {
				t.Errorf("Key behind %d bytes = %x", h.Len(), got)
			}
			h.Write(make([]byte, 59))
			other.Write(make([]byte, 59))
		}
		if h.Len() != 4+64*blocks+3*59 {
			t.Errorf("Len = %d", h.Len())
		}
	}
}

func TestNew(t *testing.T) { // 2.2
	a, b := New(), New()
	if a == nil || b == nil || a == b {
		t.Fatal("New is nil, or twice the same")
	}
	if a.Len() != 0 || a.Key() != want(nil) {
		t.Errorf("New: Len %d, Key %x", a.Len(), a.Key())
	}
	a.Write([]byte("x"))
	if c := New(); c.Len() != 0 || c.Key() != want(nil) {
		t.Error("New behind another's Write")
	}
}

func TestWriteKeyLen(t *testing.T) { // 2.3, 2.4, and the chapter's example
	h := New()
	h.Write([]byte("ab"))
	if h.Key() != want([]byte("ab")) || h.Len() != 2 {
		t.Error("behind ab")
	}
	h.Write([]byte("c"))
	if h.Key() != want([]byte("abc")) || h.Len() != 3 {
		t.Error("behind abc")
	}
	h.Write(nil)
	h.Write([]byte{})
	if h.Key() != want([]byte("abc")) || h.Len() != 3 {
		t.Error("behind no byte")
	}
}

func TestKeyLeavesTheHash(t *testing.T) { // 2.4, 2.6: asked at every place, again and again
	r := rand.New(rand.NewSource(3))
	all := random(r, 500)
	asked, unasked := New(), New()
	for n := range all {
		for range 3 {
			if asked.Key() != want(all[:n]) || asked.Len() != n {
				t.Fatalf("Key or Len behind %d bytes, one by one", n)
			}
		}
		asked.Write(all[n : n+1])
		unasked.Write(all[n : n+1])
	}
	if *asked != *unasked || unasked.Key() != want(all) {
		t.Error("Key has changed the Hash")
	}
}

func TestHowBytesAreCut(t *testing.T) { // 2.6
	r := rand.New(rand.NewSource(4))
	for range 300 {
		all := random(r, r.Intn(1500))
		h, n := New(), 0
		for _, piece := range cut(r, all) {
			h.Write(piece)
			n += len(piece)
			if h.Key() != want(all[:n]) || h.Len() != n {
				t.Fatalf("Key or Len behind %d bytes", n)
			}
		}
		if h.Key() != Sum(all) {
			t.Fatalf("Key is not Sum of %d bytes", len(all))
		}
	}
	for first := range 130 { // two pieces about the ends of blocks
		for second := range 130 {
			all := random(r, first+second)
			h := New()
			h.Write(all[:first])
			h.Write(all[first:])
			if h.Key() != want(all) {
				t.Fatalf("Key behind %d and %d bytes", first, second)
			}
		}
	}
}

func TestCopy(t *testing.T) { // 2.5
	r := rand.New(rand.NewSource(5))
	for n := range 200 {
		before, one, two := random(r, n), random(r, r.Intn(200)), random(r, r.Intn(200))
		h := New()
		h.Write(before)
		c := h.Copy()
		if c == nil || c == h || c.Key() != want(before) || c.Len() != n {
			t.Fatalf("a copy behind %d bytes", n)
		}
		h.Write(one)
		if c.Key() != want(before) || c.Len() != n {
			t.Fatalf("a copy behind %d bytes, its first written on", n)
		}
		c.Write(two)
		if h.Key() != want(slices.Concat(before, one)) || h.Len() != n+len(one) {
			t.Fatalf("the first behind %d bytes, its copy written on", n)
		}
		d := c.Copy()
		d.Write([]byte{1})
		if c.Key() != want(slices.Concat(before, two)) || d.Key() != want(slices.Concat(before, two, []byte{1})) {
			t.Fatalf("a copy's copy behind %d bytes", n)
		}
	}
}

func TestHashesByTurns(t *testing.T) { // 2.7
	r := rand.New(rand.NewSource(6))
	var hashes [7]*Hash
	var all [7][]byte
	for i := range hashes {
		hashes[i] = New()
	}
	for range 2000 {
		i := r.Intn(len(hashes))
		piece := random(r, r.Intn(100))
		hashes[i].Write(piece)
		all[i] = append(all[i], piece...)
		j := r.Intn(len(hashes))
		if hashes[j].Key() != want(all[j]) || hashes[j].Len() != len(all[j]) {
			t.Fatalf("Hash %d behind a Write to Hash %d", j, i)
		}
	}
}

func TestArgumentsStay(t *testing.T) { // 2.8: not changed, nor the room behind them, and not kept
	r := rand.New(rand.NewSource(7))
	for n := range 200 {
		room := random(r, n+200)
		before := bytes.Clone(room)
		h := New()
		h.Write(room[:n])
		first := h.Key()
		Sum(room[:n/2], room[n/2:n])
		if !bytes.Equal(room, before) {
			t.Fatalf("%d bytes, or the room behind them, are changed", n)
		}
		clear(room)
		if h.Key() != first || first != want(before[:n]) {
			t.Fatalf("%d bytes are kept", n)
		}
		h.Write([]byte("more"))
		if h.Key() != want(slices.Concat(before[:n], []byte("more"))) {
			t.Fatalf("%d bytes are kept till the next Write", n)
		}
	}
}

func TestPartsStay(t *testing.T) { // 2.8: the list of parts too
	a, b, c := []byte("a"), []byte("bc"), []byte("def")
	parts := [][]byte{a, nil, b, c}
	Sum(parts[:3]...)
	if &parts[0][0] != &a[0] || parts[1] != nil || &parts[2][0] != &b[0] || &parts[3][0] != &c[0] || len(parts[0]) != 1 || len(parts[2]) != 2 || len(parts[3]) != 3 {
		t.Error("Sum has changed its parts")
	}
}

func TestAnswersAreValues(t *testing.T) { // 2.4: what is done with an answer does not reach the Hash
	h := New()
	h.Write([]byte("abc"))
	k := h.Key()
	k[0]++
	if h.Key() != want([]byte("abc")) {
		t.Error("a Key shares memory with its Hash")
	}
}
