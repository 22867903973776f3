package journal

import (
	"bytes"
	"encoding/binary"
	"hash/crc32"
	"math"
	"math/rand"
	"reflect"
	"slices"
	"testing"

	"kiln/api"
	"kiln/disk"
)

// last: the greatest number of a record.
const last = 1 << 40

// far: numbers outside everything, and such as come back inside if a width or a sign is lost.
var far = []int{math.MinInt, math.MinInt + 1, -1 << 40, -1 << 32, -1<<32 + 2, -65536, -2, -1, 1 << 41, 1<<48 + 2, 1<<62 + 2, math.MaxInt - 1, math.MaxInt}

func madeDisk(t *testing.T, sectors int) *disk.Disk {
	t.Helper()
	d, err := disk.New(sectors)
	if err != api.OK {
		t.Fatal(err)
	}
	return d
}

func write(t *testing.T, d *disk.Disk, n int, b []byte) {
	t.Helper()
	if err := d.Write(n, b); err != api.OK {
		t.Fatalf("Write(%d): %d", n, err)
	}
}

// content: what is read of each sector. (These Reads are acts of the disk, too.)
func content(d *disk.Disk) [][]byte {
	return copied(d).Image()
}

// copied: a disk that reads as this one does; all of it lasts.
func copied(d *disk.Disk) *disk.Disk {
	image := make([][]byte, d.Sectors())
	for n := range image {
		image[n], _ = d.Read(n)
	}
	c, _ := disk.Load(image)
	return c
}

// summed: those bytes with the sum that belongs to them.
func summed(b []byte) []byte {
	b = slices.Clone(b)
	binary.LittleEndian.PutUint32(b[508:], crc32.ChecksumIEEE(b[:508]))
	return b
}

// form: the sector of a record, as 17.1 says it.
func form(r api.Record) []byte {
	b := make([]byte, 512)
	copy(b, "work")
	binary.LittleEndian.PutUint64(b[4:], uint64(r.Num))
	copy(b[12:44], r.Print[:])
	b[44] = byte(len(r.Refs))
	for i, ref := range r.Refs {
		at := 45 + 40*i
		copy(b[at:at+32], ref.Hash[:])
		binary.LittleEndian.PutUint32(b[at+32:], uint32(ref.First))
		binary.LittleEndian.PutUint32(b[at+36:], uint32(ref.Len))
	}
	return summed(b)
}

// mayBe: whether these are a record's references.
func mayBe(refs []api.Ref) bool {
	return len(refs) >= 1 && len(refs) <= 8 && !slices.ContainsFunc(refs, func(r api.Ref) bool {
		return r.First < 0 || r.First > 65535 || r.Len < 0 || r.Len > 262144
	})
}

// encodePlainly: what 17.1 says.
func encodePlainly(r api.Record) ([]byte, api.Errno) {
	if r.Num < 0 || r.Num > last {
		return nil, api.ErrLast
	}
	if !mayBe(r.Refs) {
		return nil, api.ErrRefs
	}
	return form(r), api.OK
}

// decodePlainly: what 17.2 says: each part of the sector looked at by itself.
func decodePlainly(b []byte) (api.Record, api.Errno) {
	if len(b) != 512 || string(b[:4]) != "work" || crc32.ChecksumIEEE(b[:508]) != binary.LittleEndian.Uint32(b[508:]) {
		return api.Record{}, api.ErrBroken
	}
	num, count := binary.LittleEndian.Uint64(b[4:]), int(b[44])
	if num > last || count < 1 || count > 8 || !bytes.Equal(b[45+40*count:508], make([]byte, 463-40*count)) {
		return api.Record{}, api.ErrBroken
	}
	r := api.Record{Num: int(num), Print: api.Key(b[12:44])}
	for i := range count {
		c := b[45+40*i:]
		r.Refs = append(r.Refs, api.Ref{
			Hash:  api.Key(c[:32]),
			First: int(binary.LittleEndian.Uint32(c[32:])),
			Len:   int(binary.LittleEndian.Uint32(c[36:])),
		})
	}
	if !mayBe(r.Refs) {
		return api.Record{}, api.ErrBroken
	}
	return r, api.OK
}

// replayPlainly: what 17.3 says of sectors.
func replayPlainly(sectors [][]byte, from, n, start int) []api.Record {
	var l []api.Record
	for num := start; num < start+n; num++ {
		r, err := decodePlainly(sectors[from+num%n])
		if err != api.OK || r.Num != num {
			break
		}
		l = append(l, r)
	}
	return l
}

// same: whether two lists of records are alike, nil and empty ones too.
func same(a, b []api.Record) bool {
	return len(a) == len(b) && (len(a) == 0 || reflect.DeepEqual(a, b))
}

// numbers: those of records.
func numbers(l []api.Record) []int {
	var out []int
	for _, r := range l {
		out = append(out, r.Num)
	}
	return out
}

// chance: records by chance.
type chance struct{ *rand.Rand }

func newChance(seed int64) chance {
	return chance{rand.New(rand.NewSource(seed))}
}

func (c chance) key() api.Key {
	var k api.Key
	c.Read(k[:])
	return k
}

// edge: a number within 0 to most, often at one of its edges.
func (c chance) edge(most int) int {
	switch c.Intn(4) {
	case 0:
		return 0
	case 1:
		return most
	}
	return c.Intn(most + 1)
}

func (c chance) refs() []api.Ref {
	l := make([]api.Ref, 1+c.Intn(8))
	for i := range l {
		l[i] = api.Ref{Hash: c.key(), First: c.edge(65535), Len: c.edge(262144)}
	}
	return l
}

func (c chance) record(num int) api.Record {
	return api.Record{Num: num, Print: c.key(), Refs: c.refs()}
}

// sector: bytes that may come to stand in the sector of that number: mostly its record; or one of another round, of the next number, of chance, spoilt.
func (c chance) sector(num, n int) []byte {
	switch c.Intn(48) {
	case 0:
		return form(c.record(max(0, num-n)))
	case 1:
		return form(c.record(num + n))
	case 2:
		return form(c.record(num + 1))
	case 3:
		return make([]byte, 512)
	case 4:
		b := make([]byte, 512)
		c.Read(b)
		return b
	case 5:
		b := form(c.record(num))
		b[c.Intn(512)] ^= 1 << c.Intn(8)
		return b
	case 6:
		b := form(c.record(num))
		b[c.Intn(508)] ^= 1 << c.Intn(8)
		return summed(b)
	}
	return form(c.record(num))
}

// fates: for as many sectors as may have writes.
func (c chance) fates(most int) []int {
	l := make([]int, most)
	for i := range l {
		l[i] = c.Intn(4) - 1
	}
	return l
}

// scribe: what 17.6 and 17.7 say of a writer.
type scribe struct {
	record api.Record
	acts   int
	err    api.Errno
}

// ledger: what 17.4 to 17.7 say of a journal, over a disk of its own.
type ledger struct {
	disk            *disk.Disk
	from, n         int
	start, next     int
	writes, flushes int
}

func (l *ledger) room() api.Errno {
	if l.next > last {
		return api.ErrLast
	}
	if l.next-l.start >= l.n {
		return api.ErrFull
	}
	return api.OK
}

func (l *ledger) add(p api.Key, refs []api.Ref) (*scribe, api.Errno) {
	if !mayBe(refs) {
		return nil, api.ErrRefs
	}
	if err := l.room(); err != api.OK {
		return nil, err
	}
	return &scribe{record: api.Record{Print: p, Refs: slices.Clone(refs)}}, api.OK
}

func (l *ledger) step(s *scribe) (bool, api.Errno) {
	if s.err != api.OK || s.acts == 2 {
		return true, s.err
	}
	if s.acts == 1 {
		s.acts = 2
		l.disk.Flush()
		l.flushes++
		return true, api.OK
	}
	if s.err = l.room(); s.err != api.OK {
		return true, s.err
	}
	s.record.Num = l.next
	l.disk.Write(l.from+l.next%l.n, form(s.record))
	l.writes++
	l.next++
	s.acts = 1
	return false, api.OK
}

func (l *ledger) num(s *scribe) int {
	if s.acts > 0 {
		return s.record.Num
	}
	return l.next
}

// played: a journal beside what the chapter says of it.
type played struct {
	chance
	t       *testing.T
	disk    *disk.Disk
	journal *Journal
	model   *ledger
	writers []*Writer
	scribes []*scribe
	met     map[string]int // how often something came
}

// newPlayed: a journal over a disk whose sectors hold something by chance.
func newPlayed(t *testing.T, seed int64, met map[string]int) *played {
	c := newChance(seed)
	n := 1 + c.Intn(9)
	from := c.Intn(4)
	start := []int{0, 1, n, 100, last - 3, last, last + 1}[c.Intn(7)]
	d := madeDisk(t, from+n+2+c.Intn(3))
	for num := start; num < start+n; num++ {
		if c.Intn(3) > 0 {
			write(t, d, from+num%n, c.sector(num, n))
		}
	}
	m := &ledger{disk: copied(d), from: from, n: n, start: start}
	d = copied(d)
	p := &played{chance: c, t: t, disk: d, model: m, met: met}
	p.open(start)
	return p
}

// open: the journal anew, from that number on.
func (p *played) open(start int) {
	p.t.Helper()
	want := replayPlainly(content(p.model.disk), p.model.from, p.model.n, start)
	before := p.disk.Acts()
	j, l, err := Open(p.disk, p.model.from, p.model.n, start)
	if err != api.OK || !same(l, want) {
		p.t.Fatalf("17.4: Open from %d: %v, %d, want %v", start, numbers(l), err, numbers(want))
	}
	before.Reads += min(len(want)+1, p.model.n)
	if p.disk.Acts() != before {
		p.t.Fatalf("17.4: Open's acts: %v, want %v", p.disk.Acts(), before)
	}
	p.journal, p.model.start, p.model.next = j, start, start+len(want)
	p.writers, p.scribes = nil, nil
	p.met["opened"]++
}

// add: one record, which may be wrong.
func (p *played) add() {
	key, refs := p.key(), p.refs()
	switch p.Intn(12) {
	case 0:
		refs = nil
	case 1:
		refs[p.Intn(len(refs))].First = 65536
	}
	w, err := p.journal.Add(key, refs...)
	s, want := p.model.add(key, refs)
	if err != want || (w == nil) != (s == nil) {
		p.t.Fatalf("17.6: Add: %d, want %d", err, want)
	}
	clear(refs)
	p.met["add "+want.Error()]++
	if s != nil {
		p.writers, p.scribes = append(p.writers, w), append(p.scribes, s)
	}
}

// step: one of the writers by chance, of those that are few, the last ones.
func (p *played) step() {
	if len(p.writers) == 0 {
		return
	}
	i := max(0, len(p.writers)-1-p.Intn(5))
	acts := p.disk.Acts()
	acts.Writes -= p.model.writes
	acts.Flushes -= p.model.flushes
	ended, err := p.writers[i].Step()
	wantEnded, want := p.model.step(p.scribes[i])
	if ended != wantEnded || err != want {
		p.t.Fatalf("17.7: Step: %t, %d, want %t, %d", ended, err, wantEnded, want)
	}
	acts.Writes += p.model.writes
	acts.Flushes += p.model.flushes
	if p.disk.Acts() != acts {
		p.t.Fatalf("17.7: acts of a Step: %v, want %v", p.disk.Acts(), acts)
	}
	p.met["step "+want.Error()]++
}

// move: Start, also to where it may not be.
func (p *played) move() {
	to := p.model.start - 1 + p.Intn(p.model.next-p.model.start+3)
	want := api.OK
	if to < p.model.start || to > p.model.next {
		want = api.ErrArg
	} else {
		p.model.start = to
	}
	if err := p.journal.Move(to); err != want {
		p.t.Fatalf("17.5: Move(%d): %d, want %d", to, err, want)
	}
	p.met["move "+want.Error()]++
}

// crash: of both disks alike, and the journal anew.
func (p *played) crash() {
	fates := p.fates(p.disk.Sectors())
	p.disk.Crash(fates...)
	p.model.disk.Crash(fates...)
	p.open(p.model.start)
}

// look: what is told between any two calls.
func (p *played) look() {
	p.t.Helper()
	m := p.model
	if p.journal.Start() != m.start || p.journal.Next() != m.next || p.journal.Full() != (m.next-m.start >= m.n) {
		p.t.Fatalf("17.5: Start, Next, Full: %d, %d, %t, want %d, %d of %d", p.journal.Start(), p.journal.Next(), p.journal.Full(), m.start, m.next, m.n)
	}
	for i, w := range p.writers {
		if w.Num() != m.num(p.scribes[i]) {
			p.t.Fatalf("17.7: Num: %d, want %d", w.Num(), m.num(p.scribes[i]))
		}
	}
}

// 17.3 to 17.7: journals used by chance, with writers by turns, beside a plain reading of the chapter over a disk of its own.
func TestAsRead(t *testing.T) {
	met := map[string]int{}
	for seed := range int64(1500) {
		p := newPlayed(t, seed, met)
		for range 60 {
			switch x := p.Intn(40); {
			case x < 10:
				p.add()
			case x < 32:
				p.step()
			case x < 38:
				p.move()
			case x < 39:
				p.crash()
			default:
				p.open(p.model.start + p.Intn(p.model.next-p.model.start+1))
			}
			p.look()
		}
		if !slices.EqualFunc(content(p.disk), content(p.model.disk), bytes.Equal) {
			t.Fatalf("seed %d: the disk has other bytes", seed)
		}
		p.disk.Crash()
		p.model.disk.Crash()
		if !slices.EqualFunc(p.disk.Image(), p.model.disk.Image(), bytes.Equal) {
			t.Fatalf("seed %d: other bytes last", seed)
		}
	}
	for _, what := range []string{"opened", "add error 0", "add error 170", "add error 171", "add error 172", "step error 0", "step error 170", "step error 171", "move error 0", "move error 1"} {
		if met[what] < 50 {
			t.Errorf("%s came but %d times", what, met[what])
		}
	}
}
