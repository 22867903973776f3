package engine

import (
	"bytes"
	"fmt"
	"maps"
	"math"
	"math/rand"
	"slices"
	"strings"
	"testing"

	"kiln/api"
	"kiln/chain"
	"kiln/den"
	"kiln/journal"
	"kiln/node"
	"kiln/root"
)

// reach: sectors of chains, as a disk reads.
type reach map[int]struct{}

// ref: a chain's sectors; its bytes.
func (g *ground) ref(r reach, ref api.Ref) []byte {
	g.t.Helper()
	x, err := chain.NewReader(g.disk, g.Engine.space.From(), ref)
	if err != api.OK {
		g.t.Fatalf("W2: a chain at %d: %d", ref.First, err)
	}
	for ended := false; !ended; {
		ended, err = x.Step()
	}
	if err != api.OK {
		g.t.Fatalf("W2: a chain at %d is not whole: %d", ref.First, err)
	}
	for _, n := range x.Numbers() {
		r[n] = struct{}{}
	}
	return x.Bytes()
}

// tree: the sectors of a tree.
func (g *ground) tree(r reach, key api.Key, ref api.Ref) {
	g.t.Helper()
	l, err := node.Decode(g.ref(r, ref))
	if k, _ := node.KeyOf(l); err != api.OK || k != key {
		g.t.Fatalf("W2: no node at %d, or another key", ref.First)
	}
	for _, e := range l {
		if e.Dir {
			g.tree(r, e.Key, e.Ref)
		} else {
			g.ref(r, e.Ref)
		}
	}
}

// slot: the sectors that a slot and the records from its Start on lead to.
func (g *ground) slot(r reach, s api.Slot) {
	g.t.Helper()
	g.tree(r, s.Key, s.Root)
	g.ref(r, s.Memo)
	l, _ := journal.Replay(g.disk, 2, s.Journal, s.Start)
	for _, record := range l {
		for _, ref := range record.Refs {
			g.ref(r, ref)
		}
	}
}

// listed: the sectors that a scavenging reads if nobody else is stepped.
func (g *ground) listed() reach {
	g.t.Helper()
	r := reach{}
	g.tree(r, g.Engine.current.key, g.Engine.current.root)
	g.ref(r, g.Engine.current.note)
	for _, p := range g.Engine.pins.All() {
		g.tree(r, p.Key, p.Root)
		g.ref(r, p.Memo)
	}
	for _, record := range g.Engine.kept.from(0) {
		for _, ref := range record.Refs {
			g.ref(r, ref)
		}
	}
	return r
}

// lasting: the newest slot that lasts.
func (g *ground) lasting() api.Slot {
	g.t.Helper()
	image := g.disk.Image()
	var newest api.Slot
	for n := range 2 {
		if s, err := root.Decode(image[n]); err == api.OK && s.Turn >= newest.Turn {
			newest = s
		}
	}
	return newest
}

// job: a build under way, and what Den says of it.
type job struct {
	manifest string
	src      []api.File
	files    []api.File
	fault    api.Fault
	marked   bool
	calm     bool // nobody else was stepped, and it never waited
	reuse    int  // how many tasks there were results of when it was begun
	tasks    int  // how many run, or are used
	flushes  int
	runs     int // ahead of it
	turn     int // ahead of it
	room     bool
}

// look: a reading that is open.
type look struct {
	*Reading
	pin  int
	path string
}

// world: an engine that is lived with by chance, beside the model of maps that DOC.md's W1 speaks of.
type world struct {
	*rand.Rand
	*ground
	manifests []string
	sources   [][]api.File
	trees     [][]api.File // by generation
	pins      map[int]int  // the generation of each
	job       *job
	sweeping  bool
	clean     bool // a scavenging began with no build under way, and none has begun since
	roomy     bool // a scavenging ended so, with no pin: W8 is promised of the next build
	looks     []*look
	answered  map[int]struct{} // the numbers of records whose Flush was answered
	led       map[[2]int]reach // by a slot's turn, and the next record's number
	met       map[string]int
}

// newWorld: a new disk.
func newWorld(t *testing.T, seed int64, met map[string]int) *world {
	t.Helper()
	r := rand.New(rand.NewSource(seed))
	w := &world{Rand: r, met: met, pins: map[int]int{}, trees: [][]api.File{nil}, answered: map[int]struct{}{}, led: map[[2]int]reach{}}
	size := 8 + r.Intn(4)
	w.ground = newGround(t, 2+size+14+r.Intn(60), size)
	for range 3 {
		w.sources = append(w.sources, w.source())
	}
	for range 5 {
		w.manifests = append(w.manifests, w.manifest())
	}
	return w
}

// source: two files, of few kinds.
func (w *world) source() []api.File {
	var l []api.File
	for _, path := range []string{"s", "dir/t"} {
		l = append(l, file(path, []string{"", "one\n", "b\na\nb", strings.Repeat("x", 480), strings.Repeat("line\n", 97), strings.Repeat("y", 1300)}[w.Intn(6)]))
	}
	return l
}

// manifest: some tasks, of which one may fail.
func (w *world) manifest() string {
	free := []string{"a", "b", "c", "d/x", "d/y", "d/e/z", "f/g/h", "f/g/i"}
	most := 6
	if w.Intn(3) == 0 { // enough for a journal to be full
		most = 14
		for i := range 10 {
			free = append(free, "h"+string(rune('a'+i)))
		}
	}
	w.Shuffle(len(free), func(i, j int) { free[i], free[j] = free[j], free[i] })
	have := []string{"s", "dir/t"}
	var m string
	for i := range 1 + w.Intn(most) {
		var ins, outs []string
		for _, p := range have {
			if w.Intn(3) == 0 {
				ins = append(ins, p)
			}
		}
		if w.Intn(100) == 0 {
			ins = append(ins, "nobody")
		}
		for range 1 + w.Intn(2) {
			if len(free) > 0 {
				outs, free = append(outs, free[0]), free[1:]
			}
		}
		if len(outs) == 0 {
			break
		}
		budget := 9999
		if w.Intn(50) == 0 {
			budget = 5
		}
		m += fmt.Sprintf("task t%d %d\n", w.Intn(3)*20+i, budget)
		if len(ins) > 0 {
			m += "in " + strings.Join(ins, " ") + "\n"
		}
		for _, p := range outs {
			m += "out " + p + " = " + w.term(ins) + "\n"
		}
		m += "end\n"
		have = append(have, outs...)
	}
	if w.Intn(25) == 0 {
		m += "task"
	}
	return m
}

// term: of few kinds, so that the same bytes come again and again.
func (w *world) term(ins []string) string {
	in := "\"" + strings.Repeat(string(rune('p'+w.Intn(3))), []int{0, 1, 480, 700}[w.Intn(4)]) + "\""
	if len(ins) > 0 && w.Intn(3) > 0 {
		in = "in(" + ins[w.Intn(len(ins))] + ")"
	}
	switch w.Intn(8) {
	case 0:
		return "sort(" + in + ")"
	case 1:
		return "cat(" + in + ",\"-\")"
	case 2:
		return "upper(" + in + ")"
	case 3:
		return "key(" + in + ")"
	case 4:
		if w.Intn(12) == 0 {
			return "fail(" + in + ")"
		}
		return "if(" + in + ",\"\\x01\\x00\",\"\\x02\\x00\")" // a node's bytes, a memo's
	}
	return in
}

// meet: something that should come at times.
func (w *world) meet(what string) {
	w.met[what]++
}

// live: so many calls.
func (w *world) live(calls int) {
	w.t.Helper()
	for range calls {
		switch w.Intn(60) {
		case 0, 1, 2:
			w.crashOne()
		case 3:
			w.openOne(false)
		}
		few := []int{1, 1, 1, 2, 3, 7, 20, math.MaxInt}[w.Intn(8)]
		held, old := w.guarded(few), sectors(w.disk)
		w.call(few)
		w.wantSpared(held, old)
		w.wantWhole()
	}
}

// call: one of the calls, by chance; of those that do acts, of a few.
func (w *world) call(few int) {
	w.t.Helper()
	if w.Engine.rooted != nil && few > 1 && w.Intn(3) > 0 {
		w.callOther()
		return
	}
	switch w.Intn(20) {
	case 0, 1, 2:
		w.beginOne()
	case 3, 4, 5, 6, 7, 8:
		if w.job != nil && w.Intn(4) == 0 { // up to a root
			for w.job != nil && w.Engine.rooted == nil {
				w.stepOne(1)
			}
			return
		}
		w.stepOne(few)
	case 9:
		w.cancelOne()
	case 10:
		w.pinOne()
	case 11:
		w.unpinOne()
	case 12:
		w.readOne()
	case 13:
		w.lookOne()
	case 14, 15:
		w.moreOne(few)
	case 16:
		w.scavengeOne()
	case 17, 18, 19:
		if !w.sweepToRoot() {
			w.sweepOne(few)
		}
	}
}

// callOther: a build or a scavenging has the root; the other one comes as far as it can.
func (w *world) callOther() {
	w.t.Helper()
	switch builds := w.job != nil && w.Engine.build.has(); {
	case builds && w.sweeping:
		w.sweepOne(math.MaxInt)
	case builds:
		w.scavengeOne()
	case w.job != nil:
		w.stepOne(math.MaxInt)
	default:
		w.beginOne()
	}
}

// guarded: the sectors of the heap that the next call may not write to (W4), which does so many acts.
func (w *world) guarded(acts int) reach {
	w.t.Helper()
	r := reach{}
	for _, ref := range w.Engine.store.Refs() {
		for _, n := range w.Engine.store.Sectors(ref) {
			r[n] = struct{}{}
		}
	}
	if b := w.Engine.build; b != nil {
		for _, n := range b.pen.taken[:b.pen.written] {
			if b.amidst() {
				r[n] = struct{}{}
			}
		}
	}
	maps.Copy(r, w.ledTo(w.Engine.slot))
	if w.Engine.rooted == nil || acts == 1 { // else a Flush comes first, and the slot that is written lasts
		maps.Copy(r, w.ledTo(w.lasting()))
	}
	return r
}

// ledTo: what a slot and the records from its Start on lead to, which is worked out once: it stays as it is.
func (w *world) ledTo(s api.Slot) reach {
	w.t.Helper()
	key := [2]int{s.Turn, w.Engine.journal.Next()}
	if w.led[key] == nil {
		w.led[key] = reach{}
		w.slot(w.led[key], s)
	}
	return w.led[key]
}

// wantSpared: that a call has written to none of these, and in the journal to no record that counts.
func (w *world) wantSpared(held reach, old [][]byte) {
	w.t.Helper()
	for n, b := range sectors(w.disk) {
		if bytes.Equal(b, old[n]) {
			continue
		}
		if _, ok := held[n]; ok {
			w.t.Fatalf("W4: the sector %d is written to", n)
		}
	}
}

// wantWhole: what is told of the whole at any time.
func (w *world) wantWhole() {
	w.t.Helper()
	s := w.Stat()
	if s.Held+s.Spent+s.Free != w.disk.Sectors()-w.Engine.space.From() || s.Hurt || s.Gen != len(w.trees)-1 || s.Pins != len(w.pins) {
		w.t.Fatalf("21.12: %+v", s)
	}
	if s.Key != keyOf(w.trees[s.Gen]) {
		w.t.Fatalf("W10: %+v", s)
	}
	if w.Intn(4) > 0 {
		return // what comes takes its time
	}
	if n := w.Check(); n != none {
		w.t.Fatalf("21.12: Check: %d", n)
	}
	if len(w.Engine.kept.numbers) != s.Kept || w.Engine.old.Len() > s.Pins {
		w.t.Fatalf("21.12: %+v, of %d prints and %d old generations", s, len(w.Engine.kept.numbers), w.Engine.old.Len())
	}
	r := w.listed()
	if w.job == nil && len(r) != s.Held {
		w.t.Fatalf("21.12: %d sectors are held, %d are reached", s.Held, len(r))
	}
	if len(r) > s.Held {
		w.t.Fatalf("21.12: %d sectors are held, %d are reached", s.Held, len(r))
	}
}

// beginOne: a build, of a manifest and a source that may have come before.
func (w *world) beginOne() {
	w.t.Helper()
	manifest, src := w.manifests[w.Intn(len(w.manifests))], w.sources[w.Intn(len(w.sources))]
	if w.Intn(6) == 0 {
		w.manifests[w.Intn(len(w.manifests))] = w.manifest()
	}
	if w.job != nil {
		if _, err := w.Begin(manifest, src); err != api.ErrBusy {
			w.t.Fatalf("21.3: %d", err)
		}
		return
	}
	w.startJob(manifest, src)
}

// startJob: a build that begins.
func (w *world) startJob(manifest string, src []api.File) {
	w.t.Helper()
	w.begin(manifest, src...)
	j := &job{manifest: manifest, src: src, calm: true, runs: w.Stat().Runs, turn: w.Stat().Turn}
	j.files, j.fault = den.Den(manifest, src)
	for _, print := range prints(manifest, src) {
		j.tasks++
		_, kept := w.Engine.kept.find(print)
		if _, ok := w.Engine.current.memo[print]; ok || kept {
			j.reuse++
		}
	}
	j.room = w.roomy && w.fits(j)
	w.roomy, w.clean = false, false
	w.job = j
}

// fits: W8, whether the heap has that room.
func (w *world) fits(j *job) bool {
	if j.fault.Err != api.OK {
		return false
	}
	m := memo{}
	for _, print := range prints(j.manifest, j.src) {
		m[print] = make([]api.Ref, 2) // as many as there may be
	}
	all := need(w.trees[len(w.trees)-1]) + need(j.files) + chain.Sectors(w.Engine.current.note.Len) + chain.Sectors(len(m.bytes()))
	for _, f := range j.files {
		all += chain.Sectors(len(f.Data))
	}
	return all <= w.disk.Sectors()-w.Engine.space.From()
}

// need: of the files and directories of a tree the sectors of all chains.
func need(files []api.File) int {
	all := 0
	names := map[string]map[string]struct{}{"": {}}
	for _, f := range files {
		all += chain.Sectors(len(f.Data))
		l := strings.Split(f.Path, "/")
		for i, name := range l {
			dir := strings.Join(l[:i], "/")
			if names[dir] == nil {
				names[dir] = map[string]struct{}{}
			}
			names[dir][name] = struct{}{}
		}
	}
	for _, in := range names {
		size := 2
		for name := range in {
			size += 1 + len(name) + 1 + 32 + 32 + 8
		}
		all += chain.Sectors(size)
	}
	return all
}

// stepOne: of the build.
func (w *world) stepOne(n int) {
	w.t.Helper()
	if w.job == nil {
		if p, err := w.Step(n); err != api.ErrOver || p != (api.Progress{}) {
			w.t.Fatalf("21.4: %+v, %d", p, err)
		}
		return
	}
	j, before, stat := w.job, w.disk.Acts(), w.Stat()
	own := w.Engine.build.has()
	late := w.Engine.slot.Gen > w.Engine.current.number
	p := w.step(n)
	j.flushes += w.disk.Acts().Flushes - before.Flushes
	if p.Waits {
		w.meet("a build waits")
		j.calm = false
		if w.Engine.rooted == nil || w.Engine.rooted == &w.Engine.build.course {
			w.t.Fatal("21.11: it waits for nobody")
		}
	}
	if w.disk.Acts().Flushes > before.Flushes {
		w.recordsAnswered(n == 1)
	}
	if j.marked && (!p.Ended || p.Fault != (api.Fault{Err: api.ErrCancelled}) || p.Acts != map[bool]int{true: 1}[own]) {
		w.t.Fatalf("21.5: %+v", p)
	}
	if w.Stat().Gen > stat.Gen && (!p.Ended || n == 1 && !late) {
		w.t.Fatalf("21.4: %+v", p)
	}
	if p.Ended {
		w.endJob(p)
	}
}

// recordsAnswered: which records a Flush has made last: all that are written. (Of a Step of several acts only those that one of its Flushes was behind: all but one that was written with the last act.)
func (w *world) recordsAnswered(one bool) {
	next := w.Engine.journal.Next()
	if b := w.Engine.build; !one && b != nil {
		if p, ok := b.phase.(*recording); ok && p.writer != nil {
			next--
		}
	}
	for num := range next {
		w.answered[num] = struct{}{}
	}
}

// endJob: what a build that has ended tells.
func (w *world) endJob(p api.Progress) {
	w.t.Helper()
	j := w.job
	w.job = nil
	switch p.Fault.Err {
	case api.OK:
		if j.fault.Err != api.OK || p.Gen != len(w.trees) {
			w.t.Fatalf("W1: %+v, want %+v", p, j.fault)
		}
		w.meet("published")
		w.trees = append(w.trees, j.files)
		w.wantCurrent(j.files)
		w.wantActs(j)
	case api.ErrNoSpace, api.ErrCancelled:
		w.meet(fmt.Sprint("build: ", p.Fault.Err))
		if p.Fault != (api.Fault{Err: p.Fault.Err}) || p.Gen != 0 {
			w.t.Fatalf("21.4: %+v", p)
		}
		if p.Fault.Err == api.ErrCancelled != j.marked {
			w.t.Fatalf("21.5: %+v", p)
		}
		if p.Fault.Err == api.ErrNoSpace && j.room {
			w.t.Fatal("W8: there was room")
		}
		if w.Stat().Gen != len(w.trees)-1 {
			w.t.Fatal("W1: published")
		}
	default:
		w.meet("build: fault")
		if p.Fault != j.fault || p.Gen != 0 {
			w.t.Fatalf("W1: %+v, want %+v", p.Fault, j.fault)
		}
	}
}

// wantActs: 21.6 and W6, of a build that was published.
func (w *world) wantActs(j *job) {
	w.t.Helper()
	if !j.calm {
		return
	}
	runs := w.Stat().Runs - j.runs
	if runs != j.tasks-j.reuse {
		w.t.Fatalf("W6: %d of %d tasks are run, of %d there were results", runs, j.tasks, j.reuse)
	}
	moves := w.Stat().Turn - j.turn - 1
	if j.flushes != 2*runs+moves+2 { // of outputs and of records, of moves, of nodes with the memo, and of the root
		w.t.Fatalf("21.6: %d Flushes, of %d runs and %d moves", j.flushes, runs, moves)
	}
	if j.reuse > 0 {
		w.meet("results are used")
	}
	if moves > 0 {
		w.meet("the journal is moved")
	}
}

// cancelOne: at most moments it is early enough.
func (w *world) cancelOne() {
	w.t.Helper()
	want := api.OK
	switch {
	case w.job == nil:
		want = api.ErrOver
	case w.Engine.slot.Gen == len(w.trees):
		want = api.ErrLate
		w.meet("too late")
	case w.Intn(2) == 0:
		return
	}
	if err := w.Cancel(); err != want {
		w.t.Fatalf("21.5: Cancel: %d, want %d", err, want)
	}
	if want == api.OK {
		w.job.marked = true
	}
}

// pinOne: one more, if there are few.
func (w *world) pinOne() {
	if len(w.pins) < 4 {
		w.pins[w.pin()] = len(w.trees) - 1
	}
}

// some: one of the pins that are held; 0: none is.
func (w *world) some() int {
	l := slices.Sorted(maps.Keys(w.pins))
	if len(l) == 0 {
		return 0
	}
	return l[w.Intn(len(l))]
}

// unpinOne: lets go of one.
func (w *world) unpinOne() {
	w.t.Helper()
	pin := w.some()
	if err := w.Unpin(pin); (err == api.OK) != (pin > 0) {
		w.t.Fatalf("21.7: Unpin(%d): %d", pin, err)
	}
	delete(w.pins, pin)
}

// readOne: a pin's tree, whole.
func (w *world) readOne() {
	w.t.Helper()
	if pin := w.some(); pin > 0 {
		w.wantTree(pin, w.trees[w.pins[pin]])
	}
}

// lookOne: a reading more.
func (w *world) lookOne() {
	w.t.Helper()
	pin := w.some()
	path := []string{"a", "d/x", "d", "d/e/z", "f/g/h", "none", "b/q"}[w.Intn(7)]
	r, err := w.Reading(pin, path)
	if (err == api.OK) != (pin > 0) {
		w.t.Fatalf("21.9: %d", err)
	}
	if err == api.OK && len(w.looks) < 5 {
		w.looks = append(w.looks, &look{Reading: r, pin: pin, path: path})
	}
}

// moreOne: of one of the readings.
func (w *world) moreOne(n int) {
	w.t.Helper()
	if len(w.looks) == 0 {
		return
	}
	i := w.Intn(len(w.looks))
	l := w.looks[i]
	before := w.disk.Acts().Reads
	b, ended, err := l.More(n)
	reads := w.disk.Acts().Reads - before
	gen, held := w.pins[l.pin]
	switch {
	case !held:
		if b != nil || !ended || err != api.ErrPin || reads != 0 {
			w.t.Fatalf("21.9: %t, %d", ended, err)
		}
		w.meet("a reading's pin is gone")
	case ended:
		want, wantErr := readOf(w.trees[gen], l.path)
		if !bytes.Equal(b, want) || err != wantErr {
			w.t.Fatalf("W3: %q of the generation %d: %q, %d, want %q, %d", l.path, gen, b, err, want, wantErr)
		}
		w.meet("a reading ends")
	case b != nil || err != api.OK || reads != n:
		w.t.Fatalf("21.9: More(%d): %d, %d Reads", n, err, reads)
	}
	if ended {
		w.looks = slices.Delete(w.looks, i, i+1)
	}
}

// readOf: what Read tells of a map.
func readOf(files []api.File, path string) ([]byte, api.Errno) {
	for _, f := range files {
		switch {
		case f.Path == path:
			return f.Data, api.OK
		case strings.HasPrefix(f.Path, path+"/"):
			return nil, api.ErrDir
		case strings.HasPrefix(path, f.Path+"/"):
			return nil, api.ErrFile
		}
	}
	return nil, api.ErrAbsent
}

// scavengeOne: begins one; at times it is gone through at once.
func (w *world) scavengeOne() {
	w.t.Helper()
	want := api.OK
	if w.sweeping {
		want = api.ErrScan
	}
	if err := w.Scavenge(); err != want {
		w.t.Fatalf("21.10: %d", err)
	}
	if w.sweeping {
		return
	}
	w.sweeping, w.clean = true, w.job == nil
	if w.Intn(2) == 0 {
		return
	}
	reads := len(w.listed())
	stale := 0
	for num := range w.Engine.kept.from(w.Engine.slot.Start) {
		if w.Engine.build == nil || !w.Engine.build.binds(num) {
			stale = 2
		}
	}
	turn := w.Stat().Turn
	p := w.sweep(math.MaxInt)
	switch {
	case p.Waits:
		if p.Acts != reads || stale == 0 || w.Engine.rooted == nil {
			w.t.Fatalf("21.11: %+v, want %d Reads", p, reads)
		}
		w.meet("a scavenging waits")
	case p != done(reads+stale, 0) || w.Stat().Turn != turn+stale/2:
		w.t.Fatalf("21.10: %+v, want %d Reads and %d acts", p, reads, stale)
	}
	w.endSweep(p)
}

// sweepToRoot: goes on, at times, till the scavenging has the root: whether it did.
func (w *world) sweepToRoot() bool {
	w.t.Helper()
	if !w.sweeping || w.Intn(3) > 0 {
		return false
	}
	for w.sweeping && (w.Engine.rooted == nil || w.Engine.rooted != &w.Engine.sweep.course) {
		p := w.sweep(1)
		w.endSweep(p)
		if p.Waits {
			w.meet("a scavenging waits")
			break
		}
	}
	return true
}

// sweepOne: of the scavenging.
func (w *world) sweepOne(n int) {
	w.t.Helper()
	if !w.sweeping {
		if p, err := w.Sweep(n); err != api.ErrOver || p != (api.Progress{}) {
			w.t.Fatalf("21.10: %+v, %d", p, err)
		}
		return
	}
	p := w.sweep(n)
	if p.Waits {
		w.meet("a scavenging waits")
	}
	w.endSweep(p)
}

// endSweep: what a scavenging tells.
func (w *world) endSweep(p api.Progress) {
	w.t.Helper()
	if w.job != nil {
		w.job.calm = false
	}
	if !p.Ended {
		return
	}
	w.sweeping = false
	if p.Fault != (api.Fault{}) || w.Stat().Spent != 0 {
		w.t.Fatalf("21.10: %+v, %+v", p, w.Stat())
	}
	w.meet("scavenged")
	if w.clean && len(w.pins) == 0 {
		r := reach{}
		w.ground.tree(r, w.Engine.current.key, w.Engine.current.root)
		w.ref(r, w.Engine.current.note)
		if s := w.Stat(); s.Held != len(r) || s.Kept != 0 || s.Records != 0 {
			w.t.Fatalf("W7: %+v, %d are reached", s, len(r))
		}
		w.roomy = true
	}
}

// crashOne: power fails, with any fates.
func (w *world) crashOne() {
	w.t.Helper()
	fates := make([]int, w.Intn(40))
	for i := range fates {
		fates[i] = w.Intn(3)
	}
	w.disk.Crash(fates...)
	w.openOne(true)
}

// openOne: an engine anew; of a build that was cut off perhaps the same one again.
func (w *world) openOne(crashed bool) {
	w.t.Helper()
	cut, written := w.job, w.Engine.slot
	w.open()
	w.job, w.sweeping, w.clean, w.roomy, w.looks = nil, false, false, false, nil
	clear(w.pins)
	clear(w.led)
	s := w.Stat()
	switch {
	case s.Gen == len(w.trees) && written.Gen == len(w.trees):
		w.trees = append(w.trees, cut.files)
		w.meet("a root that was not answered counts")
	case s.Gen != len(w.trees)-1 || !crashed && written.Gen != s.Gen:
		w.t.Fatalf("W2: the generation %d", s.Gen)
	}
	w.wantCurrent(w.trees[s.Gen])
	if s.Spent != 0 || s.Kept != s.Records || s.Held != len(w.listed()) || s.Runs != 0 {
		w.t.Fatalf("W7, 21.2: %+v, %d are reached", s, len(w.listed()))
	}
	for num := range w.answered {
		if num >= w.Engine.slot.Start && num >= w.Engine.journal.Next() {
			w.t.Fatalf("17.8: the record %d was answered, and is not found", num)
		}
	}
	w.answered = map[int]struct{}{}
	for num := range w.Engine.journal.Next() {
		w.answered[num] = struct{}{}
	}
	if s.Kept > 0 {
		w.meet("results are found")
	}
	if cut != nil && w.Intn(2) == 0 {
		w.startJob(cut.manifest, cut.src)
		w.stepOne(math.MaxInt)
	}
}

// DOC W1 to W8, W10, W11: scripts by chance.
func TestWorlds(t *testing.T) {
	const groups, worlds, calls = 8, 14, 200
	var all [groups]map[string]int
	t.Run("all", func(t *testing.T) {
		for group := range groups {
			all[group] = map[string]int{}
			t.Run(fmt.Sprint(group), func(t *testing.T) {
				t.Parallel()
				for i := range worlds {
					newWorld(t, int64(group*worlds+i), all[group]).live(calls)
				}
			})
		}
	})
	met := map[string]int{}
	for _, some := range all {
		for what, count := range some {
			met[what] += count
		}
	}
	for _, want := range []string{"published", "a build waits", "a scavenging waits", "build: error 60", "build: error 217", "build: fault", "results are used", "the journal is moved", "too late", "a reading ends", "a reading's pin is gone", "scavenged", "a root that was not answered counts", "results are found"} {
		if met[want] < 5 {
			t.Errorf("%q came %d times", want, met[want])
		}
	}
}
