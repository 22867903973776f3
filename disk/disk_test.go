package disk

import (
	"bytes"
	"fmt"
	"math"
	"math/rand"
	"slices"
	"testing"

	"kiln/api"
)

// full: a sector of one byte throughout.
func full(x byte) []byte { return bytes.Repeat([]byte{x}, api.SectorSize) }

// zeros: an image of so many sectors.
func zeros(n int) [][]byte {
	image := make([][]byte, n)
	for i := range image {
		image[i] = full(0)
	}
	return image
}

func random(r *rand.Rand) []byte {
	b := make([]byte, api.SectorSize)
	r.Read(b)
	return b
}

func made(t *testing.T, sectors int) *Disk {
	t.Helper()
	d, err := New(sectors)
	if err != api.OK || d == nil {
		t.Fatalf("New(%d): %v, %d", sectors, d, err)
	}
	return d
}

func loaded(t *testing.T, image [][]byte) *Disk {
	t.Helper()
	d, err := Load(image)
	if err != api.OK || d == nil {
		t.Fatalf("Load of %d sectors: %v, %d", len(image), d, err)
	}
	return d
}

func write(t *testing.T, d *Disk, n int, b []byte) {
	t.Helper()
	if err := d.Write(n, b); err != api.OK {
		t.Fatalf("Write(%d): %d", n, err)
	}
}

func turn(t *testing.T, d *Disk, n, bit int) {
	t.Helper()
	if err := d.Turn(n, bit); err != api.OK {
		t.Fatalf("Turn(%d, %d): %d", n, bit, err)
	}
}

func wantRead(t *testing.T, d *Disk, n int, want []byte) {
	t.Helper()
	b, err := d.Read(n)
	if err != api.OK {
		t.Fatalf("Read(%d): %d", n, err)
	}
	if !bytes.Equal(b, want) {
		t.Fatalf("Read(%d): %x.., want %x..", n, b[:4], want[:4])
	}
}

func wantLasts(t *testing.T, d *Disk, n int, want []byte) {
	t.Helper()
	if b := d.Image()[n]; !bytes.Equal(b, want) {
		t.Fatalf("sector %d lasts as %x.., want %x..", n, b[:4], want[:4])
	}
}

func sameImage(a, b [][]byte) bool { return slices.EqualFunc(a, b, bytes.Equal) }

// reads: what Read tells of every sector.
func reads(t *testing.T, d *Disk) [][]byte {
	t.Helper()
	all := make([][]byte, d.Sectors())
	for n := range all {
		b, err := d.Read(n)
		if err != api.OK {
			t.Fatalf("Read(%d): %d", n, err)
		}
		all[n] = b
	}
	return all
}

func TestExamples(t *testing.T) {
	d := made(t, 4)
	if err := d.Write(4, full(1)); err != api.ErrSector {
		t.Errorf("Write(4): %d", err)
	}
	if err := d.Write(0, nil); err != api.ErrSize {
		t.Errorf("Write of no bytes: %d", err)
	}
	write(t, d, 2, full(1))
	write(t, d, 2, full(2))
	write(t, d, 3, full(7))
	wantRead(t, d, 2, full(2))
	d.Crash(1)
	wantRead(t, d, 2, full(1))
	wantRead(t, d, 3, full(0))
	write(t, d, 1, full(9))
	d.Flush()
	d.Crash(0)
	wantRead(t, d, 1, full(9))
	turn(t, d, 1, 8)
	turned := full(9)
	turned[1] = 8
	wantRead(t, d, 1, turned)
	if err := d.Turn(1, 4096); err != api.ErrArg {
		t.Errorf("Turn(1, 4096): %d", err)
	}
}

func TestNew(t *testing.T) { // 3.1, 3.2
	for _, n := range []int{math.MinInt, -1, 0, 1, 65537, 1 << 32, 1<<32 + 2, math.MaxInt} {
		if d, err := New(n); d != nil || err != api.ErrSectors {
			t.Errorf("New(%d): %v, %d", n, d != nil, err)
		}
	}
	for _, n := range []int{2, 3, 1000, 65535, 65536} {
		d := made(t, n)
		if d.Sectors() != n || !sameImage(d.Image(), zeros(n)) || !sameImage(reads(t, d), zeros(n)) {
			t.Errorf("New(%d): %d sectors, or not zeros", n, d.Sectors())
		}
		before := d.Image()
		d.Crash(1, 1, 1)
		if !sameImage(before, d.Image()) {
			t.Errorf("New(%d) has writes", n)
		}
	}
}

func TestLoad(t *testing.T) { // 3.1, 3.2
	r := rand.New(rand.NewSource(31))
	for _, n := range []int{2, 3, 77, 65535, 65536} {
		image := make([][]byte, n)
		for i := range image {
			image[i] = random(r)
		}
		d := loaded(t, image)
		if d.Sectors() != n || !sameImage(d.Image(), image) || !sameImage(reads(t, d), image) {
			t.Errorf("Load of %d sectors: %d of them, or others", n, d.Sectors())
		}
		d.Crash(1, 1, 1)
		if !sameImage(d.Image(), image) {
			t.Errorf("Load of %d sectors has writes", n)
		}
	}
}

func TestLoadRefused(t *testing.T) { // 3.1
	for _, n := range []int{0, 1, 65537, 100000} {
		if d, err := Load(zeros(n)); d != nil || err != api.ErrSectors {
			t.Errorf("Load of %d sectors: %v, %d", n, d != nil, err)
		}
		if d, err := Load(make([][]byte, n)); d != nil || err != api.ErrSectors {
			t.Errorf("Load of %d sectors without bytes: %v, %d", n, d != nil, err)
		}
	}
	if d, err := Load(nil); d != nil || err != api.ErrSectors {
		t.Errorf("Load(nil): %v, %d", d != nil, err)
	}
	for at := range 3 {
		for _, size := range []int{0, 1, 480, 511, 513, 1024} {
			image := zeros(3)
			image[at] = make([]byte, size, 2000)
			if d, err := Load(image); d != nil || err != api.ErrSize {
				t.Errorf("Load with %d bytes at %d: %v, %d", size, at, d != nil, err)
			}
		}
	}
	if d, err := Load([][]byte{full(1), nil}); d != nil || err != api.ErrSize {
		t.Errorf("Load with nil: %v, %d", d != nil, err)
	}
}

func TestReadRefused(t *testing.T) { // 3.3
	d := made(t, 4)
	for _, n := range []int{math.MinInt, -1, 4, 5, 1 << 32, math.MaxInt} {
		if b, err := d.Read(n); b != nil || err != api.ErrSector {
			t.Errorf("Read(%d): %d bytes, %d", n, len(b), err)
		}
	}
	if a := d.Acts(); a != (api.Acts{}) {
		t.Errorf("refused Reads: %v", a)
	}
}

func TestReadTellsLastWrite(t *testing.T) { // 3.3, 3.4, 3.11
	d := loaded(t, [][]byte{full(100), full(101), full(102)})
	for x := byte(1); x < 6; x++ {
		write(t, d, 0, full(x))
		wantRead(t, d, 0, full(x))
		write(t, d, 2, full(10*x))
		wantRead(t, d, 0, full(x))
		wantRead(t, d, 2, full(10*x))
		wantRead(t, d, 1, full(101))
		if x == 3 {
			d.Flush()
			wantRead(t, d, 0, full(3))
			wantRead(t, d, 2, full(30))
		}
	}
	write(t, d, 0, full(100)) // the same as what lasted once is a write as any other
	wantRead(t, d, 0, full(100))
}

func TestWriteRefused(t *testing.T) { // 3.4
	d := loaded(t, [][]byte{full(1), full(2), full(3)})
	write(t, d, 1, full(4))
	before, was := reads(t, d), d.Acts()
	for _, n := range []int{math.MinInt, -1, 3, 1 << 32, math.MaxInt} {
		for _, b := range [][]byte{nil, full(5)[:511], full(5), append(full(5), 5)} {
			if err := d.Write(n, b); err != api.ErrSector {
				t.Errorf("Write(%d) of %d bytes: %d", n, len(b), err)
			}
		}
	}
	for n := range 3 {
		for _, b := range [][]byte{nil, {}, {5}, full(5)[:480], full(5)[:511], append(full(5), 5), make([]byte, 1024)} {
			if err := d.Write(n, b); err != api.ErrSize {
				t.Errorf("Write(%d) of %d bytes: %d", n, len(b), err)
			}
		}
	}
	if d.Acts() != was {
		t.Errorf("refused Writes are counted: %v", d.Acts())
	}
	if !sameImage(reads(t, d), before) {
		t.Error("a refused Write changed what is read")
	}
	d.Crash(1, 1, 1)
	if want := [][]byte{full(1), full(4), full(3)}; !sameImage(d.Image(), want) {
		t.Error("a refused Write is a write")
	}
}

func TestLastSector(t *testing.T) { // 3.3, 3.4, 3.8
	d := made(t, 65536)
	write(t, d, 65535, full(1))
	write(t, d, 0, full(2))
	wantRead(t, d, 65535, full(1))
	wantRead(t, d, 0, full(2))
	wantRead(t, d, 65534, full(0))
	turn(t, d, 65535, 0)
	d.Crash(0, 1)
	wantRead(t, d, 65535, append([]byte{0}, full(1)[1:]...))
	wantRead(t, d, 0, full(0))
}

func TestFlush(t *testing.T) { // 3.5, 3.11
	d := made(t, 5)
	d.Flush()
	for x := byte(1); x < 4; x++ {
		write(t, d, 3, full(x))
		write(t, d, 1, full(10+x))
	}
	if !sameImage(d.Image(), zeros(5)) {
		t.Error("a write lasts ahead of Flush")
	}
	d.Flush()
	want := [][]byte{full(0), full(13), full(0), full(3), full(0)}
	if !sameImage(d.Image(), want) || !sameImage(reads(t, d), want) {
		t.Error("behind Flush the last writes do not last")
	}
	d.Crash(1, 1) // no sector has a write any more, so no fate counts
	if !sameImage(d.Image(), want) || !sameImage(reads(t, d), want) {
		t.Error("a write is still there behind Flush")
	}
	write(t, d, 3, full(50))
	d.Flush()
	d.Flush()
	wantLasts(t, d, 3, full(50))
	wantLasts(t, d, 1, full(13))
}

func TestCrashFates(t *testing.T) { // 3.6
	for _, x := range []struct {
		fates []int
		want  [3]byte // of the sectors 9, 2, 4 by rising number: 2, 4, 9
	}{
		{nil, [3]byte{0, 0, 0}},
		{[]int{}, [3]byte{0, 0, 0}},
		{[]int{0, 0, 0}, [3]byte{0, 0, 0}},
		{[]int{1}, [3]byte{21, 0, 0}},
		{[]int{2}, [3]byte{22, 0, 0}},
		{[]int{0, 1}, [3]byte{0, 41, 0}},
		{[]int{0, 0, 1}, [3]byte{0, 0, 91}},
		{[]int{3, 1, 2}, [3]byte{23, 41, 92}},
		{[]int{4, 2, 3}, [3]byte{23, 41, 92}},
		{[]int{math.MaxInt, math.MaxInt, math.MaxInt}, [3]byte{23, 41, 92}},
		{[]int{-1, math.MinInt, 1}, [3]byte{0, 0, 91}},
		{[]int{1, -7, 2}, [3]byte{21, 0, 92}},
		{[]int{1, 1, 1, 1, 2, 3}, [3]byte{21, 41, 91}},
		{[]int{0, 0, 0, 1, 1, 1}, [3]byte{0, 0, 0}},
	} {
		d := made(t, 10)
		for _, w := range []struct {
			n int
			x byte
		}{{9, 91}, {2, 21}, {4, 41}, {2, 22}, {9, 92}, {2, 23}} {
			write(t, d, w.n, full(w.x))
		}
		was := d.Acts()
		d.Crash(x.fates...)
		want := zeros(10)
		want[2], want[4], want[9] = full(x.want[0]), full(x.want[1]), full(x.want[2])
		if d.Acts() != was {
			t.Errorf("Crash(%v) is an act", x.fates)
		}
		if !sameImage(d.Image(), want) || !sameImage(reads(t, d), want) {
			t.Errorf("Crash(%v): another disk than wanted", x.fates)
		}
		d.Crash(1, 1, 1)
		if !sameImage(d.Image(), want) {
			t.Errorf("behind Crash(%v) a sector still has a write", x.fates)
		}
	}
}

func TestCrashOverWhatLasted(t *testing.T) { // 3.6: below 1 is what lasted, not zeros
	d := loaded(t, [][]byte{full(1), full(2), full(3)})
	write(t, d, 0, full(11))
	write(t, d, 2, full(13))
	d.Crash(0, 1)
	if want := [][]byte{full(1), full(2), full(13)}; !sameImage(d.Image(), want) || !sameImage(reads(t, d), want) {
		t.Error("Crash(0, 1): another disk than wanted")
	}
	write(t, d, 2, full(23))
	d.Crash(-1)
	wantRead(t, d, 2, full(13))
}

func TestCrashCountsByNumber(t *testing.T) { // 3.6: by rising number, not by the order of the writes
	const sectors = 300
	d := made(t, sectors)
	r := rand.New(rand.NewSource(36))
	for _, n := range r.Perm(sectors) {
		if n%3 != 0 {
			write(t, d, n, full(1))
			write(t, d, n, full(2))
			write(t, d, n, full(3))
		}
	}
	var fates []int
	want := zeros(sectors)
	for n := range sectors {
		if n%3 != 0 {
			fate := r.Intn(4)
			fates = append(fates, fate)
			want[n] = full(byte(fate))
		}
	}
	d.Crash(fates...)
	if !sameImage(d.Image(), want) {
		t.Error("fates went to other sectors")
	}
}

func TestImageTellsWhatLasts(t *testing.T) { // 3.7
	d := loaded(t, [][]byte{full(1), full(2), full(3)})
	write(t, d, 1, full(9))
	was := d.Acts()
	if want := [][]byte{full(1), full(2), full(3)}; !sameImage(d.Image(), want) {
		t.Error("Image tells what does not last")
	}
	if d.Acts() != was {
		t.Error("Image is an act")
	}
	wantRead(t, d, 1, full(9))
	d.Crash(1)
	if want := [][]byte{full(1), full(9), full(3)}; !sameImage(d.Image(), want) {
		t.Error("Image behind Crash")
	}
}

func TestTurnEachBit(t *testing.T) { // 3.8
	r := rand.New(rand.NewSource(38))
	first, second := random(r), random(r)
	d := loaded(t, [][]byte{first, second})
	want := slices.Clone(second)
	for bit := range 4096 {
		turn(t, d, 1, bit)
		want[bit/8] ^= byte(math.Pow(2, float64(bit%8)))
		wantRead(t, d, 1, want)
	}
	for i, x := range second {
		if want[i] != ^x {
			t.Fatal("the test turned other bits")
		}
	}
	wantRead(t, d, 0, first)
	wantLasts(t, d, 1, want)
}

func TestTurnBitPlaces(t *testing.T) { // 3.8
	for _, x := range []struct {
		bit, at int
		value   byte
	}{{0, 0, 1}, {1, 0, 2}, {7, 0, 128}, {8, 1, 1}, {15, 1, 128}, {4088, 511, 1}, {4095, 511, 128}} {
		d := made(t, 2)
		turn(t, d, 0, x.bit)
		want := full(0)
		want[x.at] = x.value
		wantRead(t, d, 0, want)
		wantLasts(t, d, 0, want)
		wantRead(t, d, 1, full(0))
	}
}

func TestTurnGoesThroughEveryWrite(t *testing.T) { // 3.8
	for fate := range 4 {
		d := loaded(t, [][]byte{full(0), full(10), full(20)})
		for x := byte(11); x < 14; x++ {
			write(t, d, 1, full(x))
		}
		write(t, d, 2, full(21))
		turn(t, d, 1, 16)
		want := func(x byte) []byte {
			b := full(x)
			b[2] ^= 1
			return b
		}
		wantLasts(t, d, 1, want(10))
		wantRead(t, d, 1, want(13))
		wantRead(t, d, 2, full(21))
		d.Crash(fate, 1)
		wantRead(t, d, 1, want(byte(10+fate)))
		wantRead(t, d, 2, full(21))
	}
}

func TestTurnIsNoWrite(t *testing.T) { // 3.8, 3.9
	d := made(t, 3)
	turn(t, d, 0, 0)
	write(t, d, 2, full(5))
	if a := d.Acts(); a != (api.Acts{Writes: 1}) {
		t.Errorf("acts behind a Turn and a Write: %v", a)
	}
	d.Crash(1) // were the turned sector one with writes, it would be the first
	wantRead(t, d, 2, full(5))
}

func TestTurnRefused(t *testing.T) { // 3.8
	d := loaded(t, [][]byte{full(1), full(2)})
	write(t, d, 1, full(3))
	was := d.Acts()
	for _, n := range []int{math.MinInt, -1, 2, 1 << 32, math.MaxInt} {
		for _, bit := range []int{-1, 0, 4095, 4096} {
			if err := d.Turn(n, bit); err != api.ErrSector {
				t.Errorf("Turn(%d, %d): %d", n, bit, err)
			}
		}
	}
	for _, bit := range []int{math.MinInt, -4096, -1, 4096, 4097, 1 << 32, math.MaxInt} {
		if err := d.Turn(1, bit); err != api.ErrArg {
			t.Errorf("Turn(1, %d): %d", bit, err)
		}
	}
	if d.Acts() != was {
		t.Errorf("Turns are acts: %v", d.Acts())
	}
	if !sameImage(d.Image(), [][]byte{full(1), full(2)}) || !sameImage(reads(t, d), [][]byte{full(1), full(3)}) {
		t.Error("a refused Turn changed the disk")
	}
}

func TestTurnTwice(t *testing.T) { // 3.15
	r := rand.New(rand.NewSource(315))
	d := made(t, 3)
	for n := range 3 {
		write(t, d, n, random(r))
	}
	d.Flush()
	write(t, d, 1, random(r))
	write(t, d, 1, random(r))
	lasts, read := d.Image(), reads(t, d)
	for range 200 {
		n, bit := r.Intn(3), r.Intn(4096)
		turn(t, d, n, bit)
		if sameImage(d.Image(), lasts) || sameImage(reads(t, d), read) {
			t.Fatalf("Turn(%d, %d) turned nothing", n, bit)
		}
		turn(t, d, n, bit)
		if !sameImage(d.Image(), lasts) || !sameImage(reads(t, d), read) {
			t.Fatalf("Turn(%d, %d) twice is not as it was", n, bit)
		}
	}
}

func TestActs(t *testing.T) { // 3.9
	d := loaded(t, zeros(3))
	want := api.Acts{}
	check := func(what string) {
		t.Helper()
		if a := d.Acts(); a != want {
			t.Errorf("behind %s: %v, want %v", what, a, want)
		}
	}
	check("Load")
	d.Read(0)
	d.Read(2)
	want.Reads = 2
	check("Read")
	d.Write(0, full(1))
	d.Write(0, full(1))
	d.Write(1, full(1))
	want.Writes = 3
	check("Write")
	d.Flush()
	d.Flush() // with nothing to flush it is an act as well
	want.Flushes = 2
	check("Flush")
	d.Read(3)
	d.Read(-1)
	d.Write(3, full(1))
	d.Write(0, nil)
	check("what was refused")
	d.Write(0, full(2))
	want.Writes = 4
	d.Crash(1)
	d.Crash()
	d.Image()
	d.Turn(0, 0)
	d.Turn(0, -1)
	d.Sectors()
	d.Acts()
	check("what is no act")
	made(t, 2)
	check("another disk's making")
}

func TestWhatIsHandedInIsCopied(t *testing.T) { // 3.10
	image := [][]byte{full(1), full(2), full(3)}
	d := loaded(t, image)
	image[1][5] = 99
	image[2] = full(98)
	if want := [][]byte{full(1), full(2), full(3)}; !sameImage(d.Image(), want) || !sameImage(reads(t, d), want) {
		t.Error("Load keeps what it was handed")
	}
	b := full(4)
	write(t, d, 0, b)
	b[0] = 97
	write(t, d, 0, b)
	b[1] = 96
	d.Crash(1)
	wantRead(t, d, 0, full(4))
	fates := []int{1, 0}
	write(t, d, 0, full(5))
	write(t, d, 1, full(6))
	d.Crash(fates...)
	fates[1] = 1
	wantRead(t, d, 0, full(5))
	wantRead(t, d, 1, full(2))
}

func TestSharedSectorsOfAnImage(t *testing.T) { // 3.10: one piece of memory handed in for several sectors
	one := full(7)
	d := loaded(t, [][]byte{one, one, one})
	write(t, d, 0, one)
	write(t, d, 1, one)
	turn(t, d, 1, 0)
	if one[0] != 7 {
		t.Error("Turn changed what was handed in")
	}
	wantRead(t, d, 0, full(7))
	wantLasts(t, d, 0, full(7))
	wantLasts(t, d, 2, full(7))
}

func TestWhatIsHandedInStays(t *testing.T) { // 3.10, with the spare room
	room := append(full(1), full(2)...)
	want := slices.Clone(room)
	image := make([][]byte, 3, 5)
	for i := range image {
		image[i] = room[:api.SectorSize]
	}
	image[:5][3], image[:5][4] = full(8), full(9)
	d := loaded(t, image)
	write(t, d, 1, room[:api.SectorSize])
	turn(t, d, 0, 3)
	turn(t, d, 1, 3)
	d.Flush()
	fates := append(make([]int, 0, 4), 2, -5, 7, 9)
	write(t, d, 2, full(3))
	d.Crash(fates[:2]...)
	if !bytes.Equal(room, want) || !bytes.Equal(image[:5][3], full(8)) || !bytes.Equal(image[:5][4], full(9)) {
		t.Error("bytes that were handed in are changed")
	}
	if !slices.Equal(fates, []int{2, -5, 7, 9}) {
		t.Error("fates that were handed in are changed")
	}
}

// spoil: every byte of the list and of its spare room turned over.
func spoil(b []byte) {
	b = b[:cap(b)]
	for i := range b {
		b[i] = ^b[i]
	}
}

func TestAnswersAreNewMemory(t *testing.T) { // 3.10
	d := loaded(t, [][]byte{full(1), full(2), full(3)})
	write(t, d, 1, full(4))
	lasts, read := [][]byte{full(1), full(2), full(3)}, [][]byte{full(1), full(4), full(3)}
	for n := range 3 {
		b, _ := d.Read(n)
		spoil(b)
	}
	image := d.Image()
	for _, b := range image {
		spoil(b)
	}
	image = image[:cap(image)]
	clear(image)
	if !sameImage(d.Image(), lasts) || !sameImage(reads(t, d), read) {
		t.Error("an answer shares memory with the disk")
	}
	early, _ := d.Read(1)
	was := d.Image()
	turn(t, d, 1, 0)
	d.Flush()
	write(t, d, 1, full(6))
	d.Flush()
	if !bytes.Equal(early, full(4)) || !sameImage(was, lasts) {
		t.Error("an answer changes behind its call")
	}
}

func TestImageSectorsShareNothing(t *testing.T) { // 3.10
	d := made(t, 40)
	image := d.Image()
	for n, b := range image {
		spoil(b)
		for other, c := range image {
			want := byte(0)
			if other <= n {
				want = 255
			}
			if !bytes.Equal(c, full(want)) {
				t.Fatalf("sectors %d and %d of an image share memory", n, other)
			}
		}
	}
}

func TestTwoDisks(t *testing.T) { // 3.10
	a := loaded(t, [][]byte{full(1), full(2)})
	b := loaded(t, a.Image())
	write(t, a, 0, full(3))
	turn(t, a, 1, 0)
	wantRead(t, b, 0, full(1))
	wantRead(t, b, 1, full(2))
	write(t, b, 0, full(4))
	a.Flush()
	b.Crash()
	wantRead(t, a, 0, full(3))
	wantRead(t, b, 0, full(1))
	if a.Acts() != (api.Acts{Reads: 1, Writes: 1, Flushes: 1}) || b.Acts() != (api.Acts{Reads: 3, Writes: 1}) {
		t.Errorf("acts: %v, %v", a.Acts(), b.Acts())
	}
}

func TestCrashIsFlushWithGreatFates(t *testing.T) { // 3.12
	r := rand.New(rand.NewSource(312))
	for range 50 {
		const sectors = 12
		a, b := made(t, sectors), made(t, sectors)
		for range 1 + r.Intn(40) {
			n, s := r.Intn(sectors), random(r)
			write(t, a, n, s)
			write(t, b, n, s)
		}
		a.Flush()
		b.Crash(slices.Repeat([]int{40}, sectors)...)
		if !sameImage(a.Image(), b.Image()) || !sameImage(reads(t, a), reads(t, b)) {
			t.Fatal("Crash with great fates is not Flush")
		}
	}
}

func TestFlushedStays(t *testing.T) { // 3.13
	r := rand.New(rand.NewSource(313))
	d := made(t, 8)
	for range 30 {
		for n := range 8 {
			write(t, d, n, random(r))
		}
		d.Flush()
		told := reads(t, d)
		for range 4 {
			for n := 1; n < 8; n += 2 {
				write(t, d, n, random(r))
			}
			d.Crash(r.Perm(6)...)
			for n := 0; n < 8; n += 2 {
				wantRead(t, d, n, told[n])
				wantLasts(t, d, n, told[n])
			}
		}
	}
}

func TestLoadOfImage(t *testing.T) { // 3.14
	r := rand.New(rand.NewSource(314))
	d := made(t, 9)
	for range 20 {
		for range 5 {
			write(t, d, r.Intn(9), random(r))
		}
		d.Flush()
		other := loaded(t, d.Image())
		if other.Sectors() != 9 || !sameImage(reads(t, d), reads(t, other)) {
			t.Fatal("Load(Image()) reads as another disk")
		}
	}
}

// model: a disk told as plainly as may be: every sector's writes, what lasts ahead of them.
type model [][][]byte

func newModel(sectors int) model {
	m := make(model, sectors)
	for n := range m {
		m[n] = [][]byte{full(0)}
	}
	return m
}

func (m model) write(n int, b []byte) { m[n] = append(m[n], b) }

func (m model) read(n int) []byte { return m[n][len(m[n])-1] }

func (m model) image() [][]byte {
	var all [][]byte
	for _, s := range m {
		all = append(all, s[0])
	}
	return all
}

func (m model) crash(fates []int) {
	k := 0
	for n, s := range m {
		if len(s) == 1 {
			continue
		}
		fate := 0
		if k < len(fates) {
			fate = max(0, min(fates[k], len(s)-1))
		}
		m[n] = [][]byte{s[fate]}
		k++
	}
}

func (m model) turn(n, bit int) {
	for i, b := range m[n] {
		b = slices.Clone(b)
		b[bit/8] ^= 1 << (bit % 8)
		m[n][i] = b
	}
}

func TestAgainstModel(t *testing.T) { // 3.1 to 3.15, by turns
	for seed := range 40 {
		r := rand.New(rand.NewSource(int64(seed)))
		sectors := 2 + r.Intn(12)
		d, m := made(t, sectors), newModel(sectors)
		for step := range 300 {
			what := ""
			n := r.Intn(sectors)
			switch r.Intn(12) {
			case 0:
				what = "Flush()"
				d.Flush()
				m.crash(slices.Repeat([]int{1000}, sectors))
			case 1:
				fates := make([]int, r.Intn(sectors+3))
				for i := range fates {
					fates[i] = r.Intn(6) - 1
				}
				what = fmt.Sprintf("Crash(%v)", fates)
				ahead := slices.Clone(m)
				d.Crash(fates...)
				m.crash(fates)
				holdWhole(t, d, ahead)
			case 2:
				bit := r.Intn(4096)
				what = fmt.Sprintf("Turn(%d, %d)", n, bit)
				turn(t, d, n, bit)
				m.turn(n, bit)
			default:
				what = fmt.Sprintf("Write(%d)", n)
				b := random(r)
				write(t, d, n, b)
				m.write(n, b)
			}
			for n := range m {
				if b, err := d.Read(n); err != api.OK || !bytes.Equal(b, m.read(n)) {
					t.Fatalf("seed %d, step %d, %s: Read(%d) tells another sector", seed, step, what, n)
				}
			}
			if !sameImage(d.Image(), m.image()) {
				t.Fatalf("seed %d, step %d, %s: another image", seed, step, what)
			}
		}
	}
}

// holdWhole: behind a crash each sector is one of those that it was, or was to be (3.12).
func holdWhole(t *testing.T, d *Disk, ahead model) {
	t.Helper()
	for n, b := range d.Image() {
		if !slices.ContainsFunc(ahead[n], func(s []byte) bool { return bytes.Equal(b, s) }) {
			t.Fatalf("sector %d is a mixture behind a crash", n)
		}
		wantRead(t, d, n, b)
	}
}
