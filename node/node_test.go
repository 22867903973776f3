package node

import (
	"bytes"
	"crypto/sha256"
	"encoding/binary"
	"encoding/hex"
	"math"
	"math/rand"
	"slices"
	"strings"
	"sync"
	"testing"
	"unsafe"

	"kiln/api"
)

const nameBytes = "-.0123456789ABCDEFGHIJKLMNOPQRSTUVWXYZ_abcdefghijklmnopqrstuvwxyz"

// far: numbers outside everything, and such as come back inside if a width or a sign is lost.
var far = []int{math.MinInt, math.MinInt + 1, -1 << 32, -1<<32 + 9, -65536, -2, -1, 1 << 31, 1<<32 - 1, 1 << 32, 1<<32 + 9, 1<<40 + 9, 1<<62 + 9, math.MaxInt - 1, math.MaxInt}

// The entries of the chapter's examples.
var (
	k = repeated(7)
	f = api.Entry{Name: "f", Key: k, Ref: api.Ref{Hash: k, First: 9, Len: 3}}
	d = api.Entry{Name: "d", Dir: true, Key: k, Ref: api.Ref{First: 10, Len: 2}}
)

func repeated(x byte) api.Key { return api.Key(bytes.Repeat([]byte{x}, 32)) }

func list(l ...api.Entry) []api.Entry { return l }

func named(e api.Entry, name string) api.Entry {
	e.Name = name
	return e
}

func first(e api.Entry, n int) api.Entry {
	e.Ref.First = n
	return e
}

func length(e api.Entry, n int) api.Entry {
	e.Ref.Len = n
	return e
}

func keyed(e api.Entry, key api.Key) api.Entry {
	e.Key = key
	return e
}

func hashed(e api.Entry, hash api.Key) api.Entry {
	e.Ref.Hash = hash
	return e
}

func unhex(t *testing.T, s string) []byte {
	t.Helper()
	b, err := hex.DecodeString(strings.ReplaceAll(s, " ", ""))
	if err != nil {
		t.Fatal(err)
	}
	return b
}

func join(parts ...[]byte) []byte { return bytes.Join(parts, nil) }

// zeros: n bytes 0.
func zeros(n int) []byte { return make([]byte, n) }

// plainName: whether s is a name, as the document's section 'Words' says it.
func plainName(s string) bool {
	return len(s) >= 1 && len(s) <= 64 && s != "." && s != ".." && strings.Trim(s, nameBytes) == ""
}

// plainCheck: what 8.1 says of a list.
func plainCheck(l []api.Entry) api.Errno {
	if len(l) > 1024 {
		return api.ErrMany
	}
	for i, e := range l {
		most := map[bool]int{false: 262144, true: 1048576}[e.Dir]
		switch {
		case !plainName(e.Name):
			return api.ErrName
		case i > 0 && strings.Compare(l[i-1].Name, e.Name) >= 0:
			return api.ErrOrder
		case e.Ref.First < 0, e.Ref.First > 65535, e.Ref.Len < 0, e.Ref.Len > most, !e.Dir && !bytes.Equal(e.Key[:], e.Ref.Hash[:]):
			return api.ErrNode
		}
	}
	return api.OK
}

// plainHead: name, kind and key of an entry that may be.
func plainHead(e api.Entry) []byte {
	b := append(binary.AppendUvarint(nil, uint64(len(e.Name))), e.Name...)
	b = append(b, map[bool]byte{false: 0, true: 1}[e.Dir])
	return append(b, e.Key[:]...)
}

// plainEntry: the bytes that a node has of an entry.
func plainEntry(e api.Entry) []byte {
	b := append(plainHead(e), e.Ref.Hash[:]...)
	b = binary.LittleEndian.AppendUint32(b, uint32(e.Ref.First))
	return binary.LittleEndian.AppendUint32(b, uint32(e.Ref.Len))
}

// laid: the bytes that 8.2's form gives a list, whether it is a directory or not.
func laid(l ...api.Entry) []byte {
	b := binary.AppendUvarint([]byte{1}, uint64(len(l)))
	for _, e := range l {
		b = append(b, plainEntry(e)...)
	}
	return b
}

// plainKey: what 8.4 says of a directory.
func plainKey(l []api.Entry) api.Key {
	b := []byte{1}
	for _, e := range l {
		b = append(b, plainHead(e)...)
		if !e.Dir {
			b = binary.AppendUvarint(b, uint64(e.Ref.Len))
		}
	}
	return sha256.Sum256(b)
}

// plainUint: a number as 1.1 reads it, and the bytes behind it.
func plainUint(b []byte) (uint64, []byte, bool) {
	n, size := binary.Uvarint(b)
	if size <= 0 || size > 1 && b[size-1] == 0 {
		return 0, nil, false
	}
	return n, b[size:], true
}

// plainDecode: what 8.3 says of bytes, clause by clause.
func plainDecode(b []byte) ([]api.Entry, api.Errno) {
	if len(b) > 1048576 {
		return nil, api.ErrLong
	}
	if len(b) == 0 || b[0] != 1 {
		return nil, api.ErrNode
	}
	count, b, ok := plainUint(b[1:])
	if !ok {
		return nil, api.ErrNode
	}
	if count > 1024 {
		return nil, api.ErrMany
	}
	var l []api.Entry
	for len(l) < int(count) {
		size, rest, ok := plainUint(b)
		if !ok {
			return nil, api.ErrNode
		}
		if size > 64 {
			return nil, api.ErrName
		}
		if int(size) > len(rest) {
			return nil, api.ErrNode
		}
		name := string(rest[:size])
		if !plainName(name) {
			return nil, api.ErrName
		}
		if len(l) > 0 && strings.Compare(name, l[len(l)-1].Name) <= 0 {
			return nil, api.ErrOrder
		}
		rest = rest[size:]
		if len(rest) < 73 || rest[0] > 1 {
			return nil, api.ErrNode
		}
		e := api.Entry{Name: name, Dir: rest[0] == 1, Key: api.Key(rest[1:33])}
		e.Ref = api.Ref{Hash: api.Key(rest[33:65]), First: int(binary.LittleEndian.Uint32(rest[65:])), Len: int(binary.LittleEndian.Uint32(rest[69:]))}
		if plainCheck(list(e)) != api.OK {
			return nil, api.ErrNode
		}
		l, b = append(l, e), rest[73:]
	}
	if len(b) > 0 {
		return nil, api.ErrNode
	}
	return l, api.OK
}

// wantRefused: Check, Encode and KeyOf answer this error of l, and nothing beside it.
func wantRefused(t *testing.T, want api.Errno, l ...api.Entry) {
	t.Helper()
	if plainCheck(l) != want {
		t.Fatalf("the test wants %d of %d entries, 8.1 asks for %d", want, len(l), plainCheck(l))
	}
	if err := Check(l); err != want {
		t.Fatalf("Check of %d entries: %d, want %d", len(l), err, want)
	}
	if b, err := Encode(l); len(b) != 0 || err != want {
		t.Fatalf("Encode of %d entries: %x, %d, want none, %d", len(l), b, err, want)
	}
	if key, err := KeyOf(l); key != (api.Key{}) || err != want {
		t.Fatalf("KeyOf of %d entries: %x, %d, want zeros, %d", len(l), key, err, want)
	}
}

// wantDirectory: l is a directory, its node and its key are as 8.2 and 8.4 lay them, and the node is read back.
func wantDirectory(t *testing.T, l ...api.Entry) {
	t.Helper()
	if err := Check(l); err != api.OK {
		t.Fatalf("Check of %d entries: %d", len(l), err)
	}
	b, err := Encode(l)
	if want := laid(l...); err != api.OK || !bytes.Equal(b, want) {
		t.Fatalf("Encode: %x, %d, want %x", b, err, want)
	}
	if key, err := KeyOf(l); err != api.OK || key != plainKey(l) {
		t.Fatalf("KeyOf: %x, %d, want %x", key, err, plainKey(l))
	}
	wantRead(t, b, l...)
}

func wantRead(t *testing.T, b []byte, want ...api.Entry) {
	t.Helper()
	if l, err := Decode(b); err != api.OK || !slices.Equal(l, want) {
		t.Fatalf("Decode of %d bytes: %v, %d, want %v", len(b), l, err, want)
	}
}

func wantNoNode(t *testing.T, want api.Errno, b []byte) {
	t.Helper()
	if _, err := plainDecode(b); err != want {
		t.Fatalf("the test wants %d of %x, 8.3 asks for %d", want, b[:min(len(b), 100)], err)
	}
	if l, err := Decode(b); len(l) != 0 || err != want {
		t.Fatalf("Decode of %d bytes, %x: %d entries, %d, want none, %d", len(b), b[:min(len(b), 100)], len(l), err, want)
	}
}

// wantAsPlain: Decode answers of b what 8.3 asks for; and what it reads, Encode writes just so.
func wantAsPlain(t *testing.T, b []byte) {
	t.Helper()
	want, e := plainDecode(b)
	l, err := Decode(b)
	if err != e || !slices.Equal(l, want) {
		t.Fatalf("Decode of %d bytes, %x: %v, %d, want %v, %d", len(b), b[:min(len(b), 300)], l, err, want, e)
	}
	if err != api.OK {
		return
	}
	if again, err := Encode(l); err != api.OK || !bytes.Equal(again, b) {
		t.Fatalf("8.5: Encode(Decode(%x)): %x, %d", b, again, err)
	}
}

func randomName(r *rand.Rand) string {
	for {
		n := 1 + r.Intn(3)
		if r.Intn(8) == 0 {
			n = 1 + r.Intn(64)
		}
		b := make([]byte, n)
		for i := range b {
			b[i] = nameBytes[r.Intn(len(nameBytes))]
		}
		if plainName(string(b)) {
			return string(b)
		}
	}
}

func randomKey(r *rand.Rand) api.Key {
	var key api.Key
	r.Read(key[:])
	return key
}

func randomEntry(r *rand.Rand, name string) api.Entry {
	e := api.Entry{Name: name, Dir: r.Intn(2) == 0, Key: randomKey(r)}
	e.Ref = api.Ref{Hash: e.Key, First: r.Intn(65536), Len: r.Intn(262145)}
	if e.Dir {
		e.Ref.Hash, e.Ref.Len = randomKey(r), r.Intn(1048577)
	}
	return e
}

// randomDirectory: a directory of at most so many entries.
func randomDirectory(r *rand.Rand, most int) []api.Entry {
	var names []string
	for range r.Intn(most + 1) {
		names = append(names, randomName(r))
	}
	slices.Sort(names)
	var l []api.Entry
	for _, name := range slices.Compact(names) {
		l = append(l, randomEntry(r, name))
	}
	return l
}

// numbered: n entries, files and directories by turns, whose names rise.
func numbered(n int) []api.Entry {
	l := make([]api.Entry, n)
	for i := range l {
		e := f
		if i%2 == 1 {
			e = d
		}
		l[i] = named(e, string([]byte{'a', byte('A' + i/100), byte('0' + i/10%10), byte('0' + i%10)}))
	}
	return l
}

func TestExamples(t *testing.T) {
	K := k[:]
	node := join([]byte{1, 1, 1, 'f', 0}, K, K, unhex(t, "09 00 00 00 03 00 00 00"))
	both := join(unhex(t, "01 02 01 64 01"), K, zeros(32), unhex(t, "0a 00 00 00 02 00 00 00"), node[2:])
	for _, r := range []struct {
		l []api.Entry
		b []byte
	}{{nil, unhex(t, "01 00")}, {list(f), node}, {list(d, f), both}} {
		if b, err := Encode(r.l); err != api.OK || !bytes.Equal(b, r.b) {
			t.Errorf("Encode of %d: %x, %d, want %x", len(r.l), b, err, r.b)
		}
		wantRead(t, r.b, r.l...)
	}
	wantRefused(t, api.ErrOrder, f, d)
	wantRefused(t, api.ErrOrder, f, f)
	wantRefused(t, api.ErrName, first(named(f, ".."), -1))
	wantRefused(t, api.ErrNode, first(f, 65536))
	wantRefused(t, api.ErrNode, keyed(f, api.Key{}))
	wantRefused(t, api.ErrNode, length(f, 262145))
	wantDirectory(t, length(d, 262145))
	for _, s := range []string{"", "02 00", "01", "01 00 00"} {
		wantNoNode(t, api.ErrNode, unhex(t, s))
	}
	wantNoNode(t, api.ErrMany, unhex(t, "01 81 08"))
	wantNoNode(t, api.ErrName, unhex(t, "01 01 41"))
	if key, err := KeyOf(nil); err != api.OK || key != sha256.Sum256([]byte{1}) {
		t.Errorf("KeyOf(none): %x, %d", key, err)
	}
	want := api.Key(sha256.Sum256(join([]byte{1, 1, 'f', 0}, K, []byte{3})))
	for _, l := range [][]api.Entry{list(f), list(first(f, 77))} {
		if key, err := KeyOf(l); err != api.OK || key != want {
			t.Errorf("KeyOf: %x, %d, want %x", key, err, want)
		}
	}
}

// 8.1: how many entries there may be; more are told ahead of all that is wrong with one of them.
func Test8_1Many(t *testing.T) {
	for _, n := range []int{0, 1, 2, 127, 128, 1023, 1024} {
		wantDirectory(t, numbered(n)...)
	}
	for _, n := range []int{1025, 1026, 2048, 65536 + 3} {
		wantRefused(t, api.ErrMany, numbered(n)...)
		wantRefused(t, api.ErrMany, slices.Repeat(list(first(named(f, ".."), -1)), n)...)
	}
	wantRefused(t, api.ErrOrder, append(numbered(1023), f, f)[1:]...)
	wantDirectory(t, []api.Entry{}...)
}

// 8.1: which names there are: every byte by itself, their lengths, the dots.
func Test8_1Name(t *testing.T) {
	for c := range 256 {
		for _, s := range []string{string([]byte{byte(c)}), string([]byte{'a', byte(c)}), string([]byte{byte(c), 'a'}), string([]byte{'a', byte(c), 'b'})} {
			if plainName(s) {
				wantDirectory(t, named(f, s))
				wantDirectory(t, named(d, s))
				continue
			}
			wantRefused(t, api.ErrName, named(f, s))
			wantRefused(t, api.ErrName, named(d, s))
		}
	}
	for _, s := range []string{"...", ".a", "..a", "a.", "-", "_", strings.Repeat("a", 64), strings.Repeat(".", 64)} {
		wantDirectory(t, named(f, s))
	}
	for _, s := range []string{"", ".", "..", "a/b", "/", "a/", "é", "a b", strings.Repeat("a", 65), strings.Repeat("a", 128), strings.Repeat("a", 65+256)} {
		wantRefused(t, api.ErrName, named(f, s))
		wantRefused(t, api.ErrName, named(f, "0"), named(d, s), named(f, "z"))
	}
}

// 8.1: names rise byte by byte, the shorter one ahead where it begins the other.
func Test8_1Order(t *testing.T) {
	rising := []string{"-", "-a", ".a", "0", "00", "01", "1", "10", "2", "9", "A", "AA", "Aa", "B", "Z", "_", "a", "a-", "a.b", "a0", "aA", "a_", "aa", "ab", "b", "z", "zz"}
	var l []api.Entry
	for i, s := range rising {
		l = append(l, named([]api.Entry{f, d}[i%2], s))
	}
	wantDirectory(t, l...)
	for i := range l {
		for j := range l {
			if i < j {
				wantDirectory(t, l[i], l[j])
				continue
			}
			wantRefused(t, api.ErrOrder, l[i], l[j])
		}
		wantRefused(t, api.ErrOrder, named(f, "--"), named(d, "-0"), named(f, "zzz"), l[i])
	}
	// It is held against the one right ahead, not against the first one.
	wantRefused(t, api.ErrOrder, named(f, "a"), named(f, "c"), named(f, "b"))
	wantRefused(t, api.ErrOrder, named(f, "a"), named(d, "a"))
}

// 8.1: where a Ref may lie, and how long it may be, of a file and of a directory.
func Test8_1Ref(t *testing.T) {
	for _, e := range []api.Entry{f, d} {
		for _, n := range []int{0, 1, 9, 255, 256, 32768, 65534, 65535} {
			wantDirectory(t, first(e, n))
		}
		for _, n := range append([]int{65536, 65537, 1 << 17, 1 << 20}, far...) {
			wantRefused(t, api.ErrNode, first(e, n))
			wantRefused(t, api.ErrNode, named(f, "a"), first(e, n), named(f, "z"))
		}
		for _, n := range []int{0, 1, 127, 128, 65535, 65536, 262143, 262144} {
			wantDirectory(t, length(e, n))
		}
		for _, n := range append([]int{1048577, 1048578, 1 << 21}, far...) {
			wantRefused(t, api.ErrNode, length(e, n))
			wantRefused(t, api.ErrNode, named(f, "a"), length(e, n), named(f, "z"))
		}
	}
	for _, n := range []int{262145, 524288, 1048575, 1048576} {
		wantRefused(t, api.ErrNode, length(f, n))
		wantDirectory(t, length(d, n))
	}
}

// 8.1: a file's key is its hash, in every bit; a directory's any.
func Test8_1Key(t *testing.T) {
	for bit := range 256 {
		key := k
		key[bit/8] ^= 1 << (bit % 8)
		wantRefused(t, api.ErrNode, keyed(f, key))
		wantRefused(t, api.ErrNode, hashed(f, key))
		wantDirectory(t, hashed(keyed(f, key), key))
		wantDirectory(t, keyed(d, key))
		wantDirectory(t, hashed(d, key))
		wantDirectory(t, keyed(hashed(d, k), key))
	}
	wantDirectory(t, keyed(hashed(f, api.Key{}), api.Key{}))
	wantDirectory(t, keyed(d, api.Key{}))
	wantDirectory(t, hashed(d, d.Key))
}

// 8.1: the first entry that has something wrong decides, and of that the first thing.
func Test8_1First(t *testing.T) {
	name, order, ref := named(f, "a/b"), named(f, "a"), first(named(f, "z"), -1)
	b := named(f, "b")
	wantRefused(t, api.ErrName, name, b, order, ref)
	wantRefused(t, api.ErrOrder, b, order, name, ref)
	wantRefused(t, api.ErrNode, b, ref, name, order)
	wantRefused(t, api.ErrName, b, name, ref)
	wantRefused(t, api.ErrOrder, b, order, ref)
	wantRefused(t, api.ErrName, b, first(named(f, ""), -1))
	wantRefused(t, api.ErrName, b, length(named(f, "."), -1))
	wantRefused(t, api.ErrOrder, b, first(order, -1))
	wantRefused(t, api.ErrOrder, b, keyed(b, api.Key{}))
	// A wrong name is told, whatever the order would be.
	wantRefused(t, api.ErrName, b, named(f, "."))
	wantRefused(t, api.ErrName, b, named(f, "~"))
}

// 8.2, 8.4: directories of all kinds are laid as the document lays them.
func Test8_2Laid(t *testing.T) {
	r := rand.New(rand.NewSource(82))
	for range 400 {
		wantDirectory(t, randomDirectory(r, 12)...)
	}
	for range 4 {
		wantDirectory(t, randomDirectory(r, 1024)...)
	}
	// The greatest node that there is: far from the greatest chain.
	l := numbered(1024)
	for i := range l {
		l[i].Name = strings.Repeat("x", 60) + l[i].Name
		l[i].Ref.First, l[i].Ref.Len = 65535, 262144
	}
	wantDirectory(t, l...)
	if b, _ := Encode(l); len(b) != 3+1024*138 {
		t.Fatalf("%d bytes", len(b))
	}
}

// 8.3: ErrLong ahead of all, at just one byte above the bound.
func Test8_3Long(t *testing.T) {
	for _, begin := range [][]byte{nil, {1, 0}, {2}, {1, 0x81, 8}, {1, 1, 65}, laid(d, f)} {
		b := append(slices.Clone(begin), zeros(1048577-len(begin))...)
		wantNoNode(t, api.ErrLong, b)
		wantNoNode(t, api.ErrLong, append(b, 0))
		_, want := plainDecode(b[:1048576])
		wantNoNode(t, want, b[:1048576])
	}
}

// 8.3: the first byte and the number of entries.
func Test8_3Start(t *testing.T) {
	for c := range 256 {
		if c == 1 {
			continue
		}
		wantNoNode(t, api.ErrNode, []byte{byte(c)})
		wantNoNode(t, api.ErrNode, []byte{byte(c), 0})
		wantNoNode(t, api.ErrNode, []byte{byte(c), 0x81, 8})
		wantNoNode(t, api.ErrNode, append([]byte{byte(c)}, laid(f)[1:]...))
	}
	// Numbers that are not in their one form, or end too early, or are too wide.
	for _, s := range []string{"", "80", "80 00", "81 00", "81 80 00", "ff", "80 80 80 80 80 80 80 80 80 00", "80 80 80 80 80 80 80 80 80 02", "ff ff ff ff ff ff ff ff ff 7f", "80 80 80 80 80 80 80 80 80 80 01"} {
		wantNoNode(t, api.ErrNode, append([]byte{1}, unhex(t, s)...))
	}
	wantNoNode(t, api.ErrNode, join(unhex(t, "01 81 00"), laid(f)[2:]))
	// Too great ones: whatever stands behind, and also where a part of the number would do.
	for _, n := range []uint64{1025, 1026, 65536, 1 << 20, 1 << 31, 1 << 32, 1<<32 + 1, 1<<62 + 1, 1 << 63, 1<<63 + 1, math.MaxUint64} {
		b := binary.AppendUvarint([]byte{1}, n)
		wantNoNode(t, api.ErrMany, b)
		wantNoNode(t, api.ErrMany, append(b, laid(f)[2:]...))
		wantNoNode(t, api.ErrMany, append(b, 65))
	}
	for _, n := range []uint64{1, 2, 127, 128, 1023, 1024} {
		wantNoNode(t, api.ErrNode, binary.AppendUvarint([]byte{1}, n))
		wantNoNode(t, api.ErrName, append(binary.AppendUvarint([]byte{1}, n), 65))
	}
}

// 8.3: what may be wrong with a name, of the first and of a later entry.
func Test8_3Name(t *testing.T) {
	rest := plainEntry(f)[2:]
	for _, ahead := range [][]byte{{1, 1}, join([]byte{1, 2}, plainEntry(d))} {
		for _, n := range []uint64{65, 66, 127, 128, 16384, 1 << 32, 1 << 63, math.MaxUint64} {
			b := binary.AppendUvarint(slices.Clone(ahead), n)
			wantNoNode(t, api.ErrName, b)
			wantNoNode(t, api.ErrName, append(b, 'f'))
			wantNoNode(t, api.ErrName, join(b, bytes.Repeat([]byte("f"), 200), rest))
		}
		for _, s := range []string{"", "80", "81 00 66", "80 00", "ff ff ff ff ff ff ff ff ff 02", "80 80 80 80 80 80 80 80 80 00", "01", "02 66", "40", "40 66 66"} {
			wantNoNode(t, api.ErrNode, join(ahead, unhex(t, s)))
		}
		wantNoNode(t, api.ErrNode, join(ahead, []byte{64}, bytes.Repeat([]byte("f"), 63)))
		// A name that may not be, or stands at the wrong place, is told ahead of what is not there behind it.
		for _, s := range []string{"", ".", "..", "/", "f/", "\x00", "f\xff", "é", " "} {
			b := join(ahead, binary.AppendUvarint(nil, uint64(len(s))), []byte(s))
			wantNoNode(t, api.ErrName, b)
			wantNoNode(t, api.ErrName, join(b, rest))
			wantNoNode(t, api.ErrName, join(b, []byte{2}))
		}
	}
	for _, s := range []string{"d", "c", "D", "-", "cz"} {
		b := join([]byte{1, 2}, plainEntry(d), binary.AppendUvarint(nil, uint64(len(s))), []byte(s))
		wantNoNode(t, api.ErrOrder, b)
		wantNoNode(t, api.ErrOrder, append(b, 2))
		wantNoNode(t, api.ErrOrder, join(b, rest))
	}
}

// 8.3: what may be wrong with the other bytes of an entry.
func Test8_3Rest(t *testing.T) {
	for c := 2; c < 256; c++ {
		for _, e := range []api.Entry{f, d} {
			b := laid(e)
			b[4] = byte(c)
			wantNoNode(t, api.ErrNode, b)
		}
	}
	for _, e := range []api.Entry{f, d} {
		for _, n := range []int{65536, 1 << 17, 1 << 24, 1 << 31, 1<<32 - 1} {
			wantNoNode(t, api.ErrNode, laid(first(e, n)))
			wantNoNode(t, api.ErrNode, laid(named(f, "a"), first(e, n), named(f, "z")))
		}
		for _, n := range []int{1048577, 1 << 24, 1 << 31, 1<<32 - 1} {
			wantNoNode(t, api.ErrNode, laid(length(e, n)))
			wantNoNode(t, api.ErrNode, laid(named(f, "a"), length(e, n), named(f, "z")))
		}
		wantRead(t, laid(length(first(e, 65535), 262144)), length(first(e, 65535), 262144))
	}
	for _, n := range []int{262145, 1048575, 1048576} {
		wantNoNode(t, api.ErrNode, laid(length(f, n)))
		wantRead(t, laid(length(d, n)), length(d, n))
	}
	for bit := range 256 {
		key := k
		key[bit/8] ^= 1 << (bit % 8)
		wantNoNode(t, api.ErrNode, laid(keyed(f, key)))
		wantNoNode(t, api.ErrNode, laid(hashed(f, key)))
		wantRead(t, laid(keyed(d, key)), keyed(d, key))
	}
}

// 8.3: of two wrong things the one that stands ahead is told.
func Test8_3First(t *testing.T) {
	ref, name, order := first(named(f, "e"), 65536), named(f, ".."), named(f, "a")
	wantNoNode(t, api.ErrNode, laid(d, ref, name))
	wantNoNode(t, api.ErrNode, laid(d, ref, order))
	wantNoNode(t, api.ErrName, laid(d, name, ref))
	wantNoNode(t, api.ErrName, laid(d, name, order))
	wantNoNode(t, api.ErrOrder, laid(d, order, ref))
	wantNoNode(t, api.ErrOrder, laid(d, order, name))
	wantNoNode(t, api.ErrName, laid(d, first(name, 65536)))
	wantNoNode(t, api.ErrOrder, laid(d, first(order, 65536)))
	wantNoNode(t, api.ErrOrder, append(laid(d, order), 0))
	// A number of entries above or below what stands there.
	wantNoNode(t, api.ErrNode, join([]byte{1, 3}, laid(d, f)[2:]))
	wantNoNode(t, api.ErrNode, join([]byte{1, 1}, laid(d, f)[2:]))
	wantNoNode(t, api.ErrNode, join([]byte{1, 0}, laid(f)[2:]))
	wantNoNode(t, api.ErrName, join([]byte{1, 3}, laid(d, f)[2:], []byte{0}))
	wantNoNode(t, api.ErrOrder, join([]byte{1, 3}, laid(d, f)[2:], []byte{1, 'f'}))
}

// 8.3, 8.5: bytes that chance made of nodes: read as the document says, and what is read is written just so.
func Test8_3Chance(t *testing.T) {
	r := rand.New(rand.NewSource(83))
	for range 20000 {
		b := laid(randomDirectory(r, 4)...)
		for range 1 + r.Intn(3) {
			at := r.Intn(len(b) + 1)
			switch r.Intn(5) {
			case 0:
				b = b[:at]
			case 1:
				b = slices.Insert(b, at, byte(r.Intn(256)))
			case 2:
				b = slices.Delete(b, at, min(len(b), at+r.Intn(4)))
			case 3:
				b = append(b, b[at:]...)
			default:
				if at < len(b) {
					b[at] ^= 1 << r.Intn(8)
				}
			}
			if len(b) == 0 {
				break
			}
		}
		wantAsPlain(t, b)
	}
	for range 20000 {
		b := append([]byte{1, byte(r.Intn(4))}, zeros(r.Intn(200))...)
		r.Read(b[2:])
		wantAsPlain(t, b)
	}
}

// 8.3: every bit of a node turned over.
func Test8_3Bits(t *testing.T) {
	r := rand.New(rand.NewSource(831))
	for _, l := range [][]api.Entry{nil, list(d, f), numbered(3), randomDirectory(r, 5), randomDirectory(r, 5)} {
		b := laid(l...)
		for bit := range 8 * len(b) {
			b[bit/8] ^= 1 << (bit % 8)
			wantAsPlain(t, b)
			b[bit/8] ^= 1 << (bit % 8)
		}
	}
}

// 8.5: no beginning of a node that is not all of it is one, nor is it with anything behind.
func Test8_5Cut(t *testing.T) {
	r := rand.New(rand.NewSource(85))
	for _, l := range [][]api.Entry{nil, list(f), list(d, f), numbered(10), numbered(130), randomDirectory(r, 20)} {
		b, err := Encode(l)
		if err != api.OK {
			t.Fatal(err)
		}
		for n := range len(b) {
			wantNoNode(t, api.ErrNode, b[:n])
		}
		for c := range 256 {
			wantNoNode(t, api.ErrNode, append(slices.Clone(b), byte(c)))
		}
		wantNoNode(t, api.ErrNode, join(b, b))
		wantNoNode(t, api.ErrNode, join(b, laid(f)[2:]))
	}
}

// changes: directories that are each unlike l in one thing that the key hangs on.
func changes(l []api.Entry) [][]api.Entry {
	var all [][]api.Entry
	change := func(i int, set func(*api.Entry)) {
		other := slices.Clone(l)
		set(&other[i])
		if plainCheck(other) == api.OK && !slices.Equal(other, l) {
			all = append(all, other)
		}
	}
	for i := range l {
		change(i, func(e *api.Entry) { e.Name += "0" })
		change(i, func(e *api.Entry) { e.Name = e.Name[:len(e.Name)-1] })
		change(i, func(e *api.Entry) { e.Name = strings.ToUpper(e.Name) })
		for bit := range 256 {
			change(i, func(e *api.Entry) {
				e.Key[bit/8] ^= 1 << (bit % 8)
				if !e.Dir {
					e.Ref.Hash = e.Key
				}
			})
		}
		change(i, func(e *api.Entry) { e.Dir, e.Ref.Hash = !e.Dir, e.Key })
		for _, n := range []int{0, 1, 127, 128, 255, 256, 262143, 262144} {
			change(i, func(e *api.Entry) {
				if !e.Dir {
					e.Ref.Len = n
				}
			})
		}
		all = append(all, slices.Delete(slices.Clone(l), i, i+1))
	}
	return append(all, append(slices.Clone(l), named(f, "zzzz")))
}

// 8.5, 8.6: two directories have two nodes, and two keys, if they are unlike in what the key hangs on.
func Test8_6Unlike(t *testing.T) {
	r := rand.New(rand.NewSource(86))
	for _, l := range [][]api.Entry{nil, list(f), list(d), list(d, f), numbered(4), randomDirectory(r, 3)} {
		keys, nodes := map[api.Key]int{}, map[string]int{}
		all := append(changes(l), l)
		slices.SortFunc(all, func(a, b []api.Entry) int { return bytes.Compare(laid(a...), laid(b...)) })
		all = slices.CompactFunc(all, slices.Equal)
		for i, other := range all {
			key, err := KeyOf(other)
			b, e := Encode(other)
			if err != api.OK || e != api.OK {
				t.Fatalf("%d, %d", err, e)
			}
			if j, known := keys[key]; known {
				t.Fatalf("one key of %v and %v", other, all[j])
			}
			if j, known := nodes[string(b)]; known {
				t.Fatalf("one node of %v and %v", other, all[j])
			}
			keys[key], nodes[string(b)] = i, i
		}
	}
}

// 8.6: on where things lie, and on how long the nodes of directories are, no key hangs.
func Test8_6Alike(t *testing.T) {
	r := rand.New(rand.NewSource(861))
	for range 300 {
		l := randomDirectory(r, 6)
		want, err := KeyOf(l)
		if err != api.OK {
			t.Fatal(err)
		}
		for i := range l {
			other := slices.Clone(l)
			for _, n := range []int{0, 1, 77, 65535, r.Intn(65536)} {
				other[i].Ref.First = n
				wantKey(t, want, other)
			}
			if !l[i].Dir {
				continue
			}
			for _, n := range []int{0, 1, 127, 128, 262145, 1048576} {
				other[i].Ref.Len = n
				wantKey(t, want, other)
			}
			for _, hash := range []api.Key{{}, k, l[i].Key, randomKey(r)} {
				other[i].Ref.Hash = hash
				wantKey(t, want, other)
			}
		}
	}
}

func wantKey(t *testing.T, want api.Key, l []api.Entry) {
	t.Helper()
	if key, err := KeyOf(l); err != api.OK || key != want {
		t.Fatalf("KeyOf(%v): %x, %d, want %x", l, key, err, want)
	}
}

// 8.7: what is handed in is not changed, nor the room behind it.
func Test8_7Untouched(t *testing.T) {
	lists := [][]api.Entry{{}, list(d, f), list(f, d), list(first(f, -1)), numbered(40), list(named(f, "/"))}
	for _, l := range lists {
		room := append(slices.Clone(l), named(d, "room"), named(f, "behind"))
		before := slices.Clone(room)
		Check(room[:len(l)])
		Encode(room[:len(l)])
		KeyOf(room[:len(l)])
		if !slices.Equal(room, before) {
			t.Fatalf("%v, was %v", room, before)
		}
		b := join(laid(l...), bytes.Repeat([]byte{0xa5}, 300))
		kept := bytes.Clone(b)
		for n := range len(b) {
			Decode(b[:n])
		}
		if !bytes.Equal(b, kept) {
			t.Fatal("Decode changed what it was given")
		}
	}
}

// 8.7: answers are new memory, their spare room too: what is done to one is seen in no other, nor in what was handed in.
func Test8_7New(t *testing.T) {
	for _, l := range [][]api.Entry{nil, list(f), list(d, f), numbered(5), numbered(100)} {
		b, _ := Encode(l)
		again, _ := Encode(l)
		spoil := b[:cap(b)]
		for i := range spoil {
			spoil[i] = 0xee
		}
		if want := laid(l...); !bytes.Equal(again, want) {
			t.Fatalf("two nodes share memory: %x", again)
		}
		wantDirectory(t, l...)
		one, _ := Decode(again)
		two, _ := Decode(again)
		spoilt := one[:cap(one)]
		for i := range spoilt {
			spoilt[i] = api.Entry{Name: "spoilt", Dir: true, Ref: api.Ref{First: -1}}
		}
		if !slices.Equal(two, l) {
			t.Fatalf("two lists share memory: %v", two)
		}
		clear(again[:cap(again)])
		if !slices.Equal(two, l) {
			t.Fatalf("the entries have bytes of the node: %v", two)
		}
	}
}

// 8.7: nothing of names is kept: these change behind the calls, as no text of plain Go does.
func Test8_7Names(t *testing.T) {
	lent := []byte("name")
	l := list(named(f, unsafe.String(&lent[0], len(lent))))
	b, err := Encode(l)
	key, e := KeyOf(l)
	copy(lent, "else")
	want := list(named(f, "name"))
	if err != api.OK || e != api.OK || !bytes.Equal(b, laid(want...)) || key != plainKey(want) {
		t.Fatalf("%x, %d, %x, %d", b, err, key, e)
	}
	wantDirectory(t, l...)
	copy(lent, "na/e")
	wantRefused(t, api.ErrName, l...)
}

// 8.7: nothing is kept from call to call: a call answers the same behind whatever others, and beside them.
func Test8_7Alone(t *testing.T) {
	good, wrong := laid(d, f), join([]byte{1, 2}, laid(f)[2:], []byte{65})
	var all sync.WaitGroup
	for range 8 {
		all.Go(func() {
			for range 200 {
				if l, err := Decode(wrong); len(l) != 0 || err != api.ErrName {
					t.Errorf("Decode: %v, %d", l, err)
				}
				if l, err := Decode(good); err != api.OK || !slices.Equal(l, list(d, f)) {
					t.Errorf("Decode: %v, %d", l, err)
				}
				if err := Check(list(f, d)); err != api.ErrOrder {
					t.Errorf("Check: %d", err)
				}
				if key, err := KeyOf(list(d, f)); err != api.OK || key != plainKey(list(d, f)) {
					t.Errorf("KeyOf: %x, %d", key, err)
				}
			}
		})
	}
	all.Wait()
}

// 8.7: no call panics, whatever it is given: entries of chance, with numbers of all sizes and names of all bytes.
func Test8_7Chance(t *testing.T) {
	r := rand.New(rand.NewSource(87))
	number := func(most int) int {
		if r.Intn(6) == 0 {
			return far[r.Intn(len(far))]
		}
		return r.Intn(most + most/20)
	}
	for range 20000 {
		l := randomDirectory(r, 5)
		for range r.Intn(3) {
			if len(l) == 0 {
				break
			}
			i := r.Intn(len(l))
			switch r.Intn(6) {
			case 0:
				l[i].Name = string(zeros(r.Intn(70)))
			case 1:
				l[i].Name = randomName(r) + []string{"", "", "/", "\xff"}[r.Intn(4)]
			case 2:
				l[i].Ref.First = number(65536)
			case 3:
				l[i].Ref.Len = number(1048577)
			case 4:
				l[i].Dir = !l[i].Dir
			default:
				l = append(l, l[i])
			}
		}
		if want := plainCheck(l); want != api.OK {
			wantRefused(t, want, l...)
			continue
		}
		wantDirectory(t, l...)
	}
}
