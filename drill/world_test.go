package drill

import (
	"fmt"
	"slices"
	"strconv"
	"strings"
	"testing"

	"kiln/api"
	"kiln/den"
)

// stat: what the line tells.
type stat struct {
	gen, turn, runs, held, spent, free, pins, kept, records int
	key                                                     string
	hurt                                                    bool
}

// job: a build under way, and what it means.
type job struct {
	manifest string
	source   []api.File
	tree     []file
	tasks    int
	fault    api.Fault
	before   stat
	marked   bool
	late     bool // its root is written, or may be
	calm     bool // no other line has done an act, and it has not waited
	room     bool // W8 promises it
	acts     int
}

// world: a drill that is lived with by chance, told by its lines alone, beside a model of maps.
type world struct {
	chance
	t        *testing.T
	seed     int64
	x        *Drill
	last     string // the line
	source   []api.File
	old      []string // manifests that came before
	trees    [][]file // by generation
	tasks    []int    // likewise: each has one output
	roomy    bool     // a scavenging has ended so that W8 is promised of the next build
	heap     int
	pins     map[int]int
	pinned   int // how many this engine had
	job      *job
	sweep    bool
	alone    bool // since the scavenging began there was no build
	pinsStay bool // and no pin was let go of
	before   stat // when it began
	swept    int  // how many acts it did
	reading  string
	by       int // the reading's pin
	reads    int // how many it did
	met      map[string]int
}

// say: a line, and the words of its answer.
func (w *world) say(format string, args ...any) []string {
	w.t.Helper()
	w.last = fmt.Sprintf(format, args...)
	answer := w.x.Do(w.last)
	if strings.Contains(answer, "\n") {
		w.fail("22.5: more than one line: %q", answer)
	}
	return strings.Fields(answer)
}

// fail: tells what is wrong, and ends.
func (w *world) fail(format string, args ...any) {
	w.t.Helper()
	w.t.Fatalf("seed %d, %.300q: %s", w.seed, w.last, fmt.Sprintf(format, args...))
}

// want: a line that is to be answered so.
func (w *world) want(promise, line, want string) {
	w.t.Helper()
	w.last = line
	if got := w.x.Do(line); got != want {
		w.fail("%s: %.300q, want %.300q", promise, got, want)
	}
}

// number: that of a word.
func (w *world) numberOf(word string) int {
	w.t.Helper()
	n, err := strconv.Atoi(word)
	if err != nil {
		w.fail("%v", err)
	}
	return n
}

// stat: as the line tells it.
func (w *world) stat() stat {
	w.t.Helper()
	l := w.say("stat")
	if len(l) < 11 || len(l) > 12 {
		w.fail("22.4: %q", l)
	}
	var n []int
	for _, word := range l[1:10] {
		n = append(n, w.numberOf(word))
	}
	return stat{n[0], n[1], n[2], n[3], n[4], n[5], n[6], n[7], n[8], l[10], len(l) == 12}
}

// newWorld: a new disk.
func newWorld(t *testing.T, seed int64, met map[string]int) *world {
	w := &world{chance: newChance(seed), t: t, seed: seed, x: New(), met: met}
	for _, path := range []string{"in", "dir/t"} {
		w.source = append(w.source, api.File{Path: path})
		w.want("22.4", "source "+short(path)+" \"\"", fmt.Sprint("ok ", len(w.source)))
	}
	w.format()
	return w
}

// format: a new disk with its first engine.
func (w *world) format() {
	w.t.Helper()
	journal := 8 + w.Intn(4)
	w.heap = 14 + w.Intn(60)
	w.want("22.4", fmt.Sprintf("format %d %d", 2+journal+w.heap, journal), "ok")
	w.trees, w.tasks = [][]file{nil}, []int{0}
	w.job, w.sweep, w.reading = nil, false, ""
	w.open()
}

// open: a new engine, behind a format, a crash, or none.
func (w *world) open() {
	w.t.Helper()
	w.foresee()
	l := w.say("open")
	if len(l) != 3 || l[0] != "ok" {
		w.fail("W2: %q", l)
	}
	gen := w.numberOf(l[1])
	if j := w.job; j != nil && gen == len(w.trees) && j.late && !j.marked {
		w.met["a root that was not answered counts"]++
		w.trees, w.tasks = append(w.trees, j.tree), append(w.tasks, j.tasks)
	}
	if gen != len(w.trees)-1 {
		w.fail("W2: the generation %d, want %d", gen, len(w.trees)-1)
	}
	w.job, w.sweep, w.reading, w.pins, w.pinned = nil, false, "", map[int]int{}, 0
	s := w.stat()
	if s.kept == 0 {
		w.wantJustCurrent(s)
	}
	if s.spent != 0 || s.hurt || s.runs != 0 || s.pins != 0 || s.kept != w.numberOf(l[2]) {
		w.fail("W7: %+v", s)
	}
	w.wantWhole()
	w.pin()
	w.wantTree(w.pinned)
	w.say("unpin %d", w.pinned)
	delete(w.pins, w.pinned)
}

// live: so many lines that do something, and what is promised ahead of each.
func (w *world) live(calls int) {
	w.t.Helper()
	for range calls {
		w.line()
		w.wantWhole()
		for pin := range w.pins {
			if w.Intn(8) == 0 {
				w.wantTree(pin)
			}
		}
	}
}

// line: one of all.
func (w *world) line() {
	w.t.Helper()
	few := []int{1, 1, 1, 2, 3, 7, 20, 9999}[w.Intn(8)]
	switch w.Intn(32) {
	case 31:
		w.root()
	case 30:
		w.fill()
	case 0:
		w.crash()
	case 1:
		w.open()
	case 2, 3, 4:
		w.build()
	case 5, 6, 7, 8, 9, 10:
		w.step(fmt.Sprintf("step %d", few), few)
	case 11, 12:
		w.step("run", 1<<40)
	case 13:
		w.cancel()
	case 14:
		w.pin()
	case 15, 16:
		w.unpin()
	case 17:
		w.change()
	case 18, 19, 20:
		w.begin()
	case 21, 22, 23:
		w.more(few)
	case 24:
		w.scavenge()
	case 25, 26, 27, 28:
		w.sweeps(few)
	case 29:
		if w.Intn(20) == 0 {
			w.format()
		}
		w.x.Do(w.junk()) // a remark, something refused; at times a line of one word, of those that change nothing
	}
}

// junk: no line that changes anything.
func (w *world) junk() string {
	return w.of("# pin", "", "  ", "pin pin", "step", "read 1 \"\" \"", "crash \"\"", "format 1 1", "format 40 7", "source \"x\"", "stat", "check", "run 1", "more", "den \"\"", "den \"task\"", "unpin 99999", "list 99999 \"\"", "turn -1 1", "turn 1 -1", "step 0", "sweep 0", "reading 99999 \"x\"", "unsource \"none\"", strings.Repeat(" ", 5000))
}

// crash: power fails, with any fates.
func (w *world) crash() {
	w.t.Helper()
	w.foresee()
	line := "crash"
	for range w.Intn(6) {
		line += fmt.Sprint(" ", w.Intn(4)-1)
	}
	w.want("22.4", line, "ok")
	w.want("22.4", "stat", "error 221")
	if w.Intn(3) == 0 {
		w.want("22.4", "crash 1 1 1", "ok")
	}
	w.open()
}

// foresee: whether the root of the build under way may be written.
func (w *world) foresee() {
	w.t.Helper()
	if w.job != nil && w.job.fault.Err == api.OK && w.x.engine != nil && w.stat().turn > w.job.before.turn {
		w.job.late = true
	}
}

// toRoot: lines of one act each, till a root is written by them, or there is nothing to go on with.
func (w *world) toRoot(line func()) {
	w.t.Helper()
	for turn, left := w.stat().turn, 200; left > 0 && w.stat().turn == turn; left-- {
		line()
	}
}

// fill: as many records as a journal has, or nearly, of a build that is cancelled; and a build that goes on behind them.
func (w *world) fill() {
	w.t.Helper()
	if w.job != nil {
		return
	}
	from := w.Intn(10)
	w.start(many(from, from+12))
	w.step("step 31", 31)
	if w.job != nil {
		w.cancel()
		w.builds()
	}
	w.start(many(from+5, from+9+w.Intn(8)))
	w.root()
}

// builds: one act of the build.
func (w *world) builds() {
	w.t.Helper()
	w.step("step 1", 1)
}

// root: one has the root, and the other one goes as far as it can, or something else comes.
func (w *world) root() {
	w.t.Helper()
	switch {
	case w.job != nil:
		w.toRoot(w.builds)
		if w.Intn(3) == 0 {
			w.cancel()
		} else {
			w.scavenge()
			w.sweeps(9999)
		}
	case w.sweep:
		w.toRoot(func() { w.sweeps(1) })
		w.build()
		w.step("run", 1<<40)
	default:
		w.scavenge()
	}
}

// build: one of a manifest and a source that may have come before.
func (w *world) build() {
	w.t.Helper()
	m := w.manifest()
	if len(w.old) > 0 && w.Intn(2) == 0 {
		m = w.old[w.Intn(len(w.old))]
	}
	line := "build " + w.literal(m)
	if len(line) > 4096 {
		line = "build " + short(m)
	}
	if len(line) <= 4096 {
		w.begins(m, line)
	}
}

// start: a build of a manifest.
func (w *world) start(literal string) {
	w.t.Helper()
	words, _ := plainWords(literal)
	w.begins(words[0].text, "build "+literal)
}

// begins: a build, by its line.
func (w *world) begins(m, line string) {
	w.t.Helper()
	if w.job != nil {
		w.want("21.3", line, "error 212")
		return
	}
	if place, err := den.Source(w.source); err != api.OK {
		w.want("22.4", line, fmt.Sprintf("error 162 %d", place))
		return
	}
	w.old = append(w.old, m)
	j := &job{manifest: m, source: slices.Clone(w.source), before: w.stat(), calm: true}
	files, fault := den.Den(m, w.source)
	tasks, _, _ := den.Plan(m, w.source)
	j.tree, j.fault, j.tasks = filesOf(files), fault, len(tasks)
	j.room = w.roomy && w.fits(j)
	w.roomy, w.alone = false, false
	w.want("22.4", line, "ok")
	w.job = j
}

// step: the build goes on, so many acts at most.
func (w *world) step(line string, most int) {
	w.t.Helper()
	l := w.say("%s", line)
	if w.job == nil {
		if !slices.Equal(l, []string{"error", "214"}) {
			w.fail("21.4: %q", l)
		}
		return
	}
	if len(l) < 3 || l[0] != "ok" {
		w.fail("22.4: %q", l)
	}
	j, acts := w.job, w.numberOf(l[1])
	j.acts += acts
	if acts > most || l[2] == "going" && acts != most || l[2] != "waits" && j.marked && l[2] != "fault" {
		w.fail("21.4: %q", l)
	}
	switch l[2] {
	case "going":
	case "waits":
		w.met["a build waits"]++
		if !w.sweep {
			w.fail("21.11: nobody has the root")
		}
		j.calm = false
	case "done":
		w.publish(w.numberOf(l[3]))
	case "fault":
		w.wantFault(l)
	default:
		w.fail("22.4: %q", l)
	}
}

// publish: the build has ended with a generation.
func (w *world) publish(gen int) {
	w.t.Helper()
	j := w.job
	w.job = nil
	if j.fault.Err != api.OK || j.marked || gen != len(w.trees) {
		w.fail("W1: done %d, want %d or %+v", gen, len(w.trees), j.fault)
	}
	w.met["published"]++
	if j.room {
		w.met["there is room"]++
	}
	w.trees, w.tasks = append(w.trees, j.tree), append(w.tasks, j.tasks)
	s := w.stat()
	if runs := s.runs - j.before.runs; j.calm {
		moves := s.turn - j.before.turn - 1
		if want := j.before.free - s.free + 3*runs + 2*moves + 3; j.acts != want {
			w.fail("21.6, W11: %d acts, want %d, of %d runs and %d moves", j.acts, want, runs, moves)
		}
		if moves > 0 {
			w.met["a journal is full"]++
		}
		if runs < j.tasks {
			w.met["results are used"]++
		}
	}
	if s.kept != 0 || s.records != 0 {
		w.fail("21.4: %+v", s)
	}
	w.pin()
	w.wantTree(w.pinned)
}

// wantFault: how a build has ended otherwise.
func (w *world) wantFault(l []string) {
	w.t.Helper()
	j := w.job
	w.job = nil
	err := l[3]
	w.met["fault "+err]++
	switch {
	case (err == "217") != j.marked:
		w.fail("21.5: %q", l)
	case err == "60" && j.room:
		w.fail("W8: there was room")
	case err == "217", err == "60":
		if l[4] != "0" || l[5] != "\"\"" || len(l) != 6 {
			w.fail("21.4: %q", l)
		}
	case !slices.Equal(l[3:], []string{strconv.Itoa(int(j.fault.Err)), strconv.Itoa(j.fault.Line), answered(j.fault.Task)}):
		w.fail("W1: %q, want %+v", l, j.fault)
	}
	if w.stat().gen != len(w.trees)-1 {
		w.fail("W1: published")
	}
}

// cancel: the build is marked, unless it is too late.
func (w *world) cancel() {
	w.t.Helper()
	l := w.say("cancel")
	switch {
	case w.job == nil:
		if !slices.Equal(l, []string{"error", "214"}) {
			w.fail("21.5: %q", l)
		}
	case slices.Equal(l, []string{"ok"}):
		w.job.marked = true
	case slices.Equal(l, []string{"error", "216"}):
		if w.job.fault.Err != api.OK || w.job.marked {
			w.fail("21.5: too late")
		}
		w.met["too late"]++
		w.job.late = true
		if w.Intn(2) == 0 {
			w.step("step 1", 1)
			if w.job != nil {
				w.fail("21.5: it was not too late")
			}
		}
	default:
		w.fail("21.5: %q", l)
	}
}

// pin: the current generation.
func (w *world) pin() {
	w.t.Helper()
	if len(w.pins) == 64 {
		w.want("21.7", "pin", "error 190")
		for pin := range w.pins {
			w.want("21.7", fmt.Sprint("unpin ", pin), "ok")
			delete(w.pins, pin)
		}
	}
	w.pinned++
	w.want("21.7", "pin", fmt.Sprintf("ok %d %d", w.pinned, len(w.trees)-1))
	w.pins[w.pinned] = len(w.trees) - 1
}

// unpin: one of all that there were.
func (w *world) unpin() {
	w.t.Helper()
	pin := w.Intn(w.pinned + 2)
	want := "error 191"
	if _, ok := w.pins[pin]; ok {
		want, w.pinsStay = "ok", false
	}
	delete(w.pins, pin)
	w.want("21.7", fmt.Sprint("unpin ", pin), want)
}

// change: the source.
func (w *world) change() {
	w.t.Helper()
	path := w.of("in", "dir/t", "in", "dir/t", "other", "other", "in/x")
	at := slices.IndexFunc(w.source, func(f api.File) bool { return f.Path == path })
	if path == "in/x" && w.Intn(3) > 0 || w.Intn(25) == 0 {
		want := "error 90"
		if at >= 0 {
			w.source = slices.Delete(slices.Clone(w.source), at, at+1)
			want = fmt.Sprint("ok ", len(w.source))
		}
		w.want("22.4", "unsource "+w.literal(path), want)
		if path != "in" && path != "dir/t" {
			return
		}
		at = slices.IndexFunc(w.source, func(f api.File) bool { return f.Path == path })
	}
	f := api.File{Path: path, Data: []byte(w.bytes())}
	w.source = slices.Clone(w.source)
	if at >= 0 {
		w.source[at] = f
	} else {
		w.source = append(w.source, f)
	}
	w.want("22.4", "source "+short(path)+" "+w.literal(string(f.Data)), fmt.Sprint("ok ", len(w.source)))
}

// onePath: of a tree, or near to one of it.
func (w *world) onePath(gen int) string {
	if l := w.trees[gen]; len(l) > 0 && w.Intn(4) > 0 {
		return l[w.Intn(len(l))].path + w.of("", "", "", "", "", "/x")
	}
	return w.of("a", "b", "d", "d/e", "d/x", "f/g", "k")
}

// begin: a reading.
func (w *world) begin() {
	w.t.Helper()
	pin := w.Intn(w.pinned + 1)
	gen, ok := w.pins[pin]
	if !ok {
		w.want("21.9", fmt.Sprintf("reading %d \"a\"", pin), "error 191")
		return
	}
	path := w.onePath(gen)
	w.want("21.9", fmt.Sprintf("reading %d %s", pin, w.literal(path)), "ok")
	w.reading, w.by, w.reads = path, pin, 0
}

// more: of the reading.
func (w *world) more(n int) {
	w.t.Helper()
	line := fmt.Sprint("more ", n)
	if w.reading == "" {
		w.want("22.4", line, "error 222")
		return
	}
	path := w.reading
	gen, ok := w.pins[w.by]
	if !ok {
		w.met["a reading's pin is gone"]++
		w.reading = ""
		w.want("21.9", line, "error 191")
		return
	}
	_, data, err, nodes := treeOf(w.trees[gen]).at(path)
	all := 0
	for _, d := range nodes {
		all += sectors(d.size())
	}
	if err == 0 {
		all += sectors(len(data))
	}
	w.reads += n
	switch {
	case w.reads < all:
		w.want("21.9", line, "ok going")
		return
	case err != 0:
		w.want("21.9", line, fmt.Sprint("error ", err))
	default:
		w.want("W3", line, "ok "+answered(data))
		w.met["a reading ends"]++
	}
	w.reading = ""
	w.want("22.4", line, "error 222")
}

// scavenge: one begins.
func (w *world) scavenge() {
	w.t.Helper()
	if w.sweep {
		w.want("21.10", "scavenge", "error 218")
		return
	}
	w.want("21.10", "scavenge", "ok")
	w.sweep, w.alone, w.pinsStay, w.swept, w.before = true, w.job == nil, true, 0, w.stat()
}

// sweeps: so many acts of the scavenging.
func (w *world) sweeps(n int) {
	w.t.Helper()
	l := w.say("sweep %d", n)
	if !w.sweep {
		if !slices.Equal(l, []string{"error", "214"}) {
			w.fail("21.10: %q", l)
		}
		return
	}
	if len(l) != 3 || l[0] != "ok" {
		w.fail("21.10: %q", l)
	}
	acts := w.numberOf(l[1])
	w.swept += acts
	if w.job != nil {
		w.job.calm = false
	}
	if acts > n || l[2] == "going" && acts != n {
		w.fail("21.10: %q", l)
	}
	switch l[2] {
	case "going":
	case "waits":
		w.met["a scavenging waits"]++
		if w.job == nil {
			w.fail("21.11: nobody has the root")
		}
	case "done":
		w.sweep = false
		w.wantSwept()
	default:
		w.fail("21.10: %q", l)
	}
}

// wantSwept: what holds behind a scavenging's end.
func (w *world) wantSwept() {
	w.t.Helper()
	w.met["scavenged"]++
	s := w.stat()
	if s.spent != 0 || w.job == nil && s.kept != 0 {
		w.fail("W7: %+v", s)
	}
	if !w.alone {
		return
	}
	if len(w.pins) == 0 {
		w.met["scavenged without a pin"]++
		w.wantJustCurrent(s)
		w.roomy = true
	}
	if !w.pinsStay {
		return
	}
	want := w.before.held
	if w.before.records > 0 {
		want += 2
	}
	if w.swept != want {
		w.fail("W11: %d acts, want %d: %+v", w.swept, want, w.before)
	}
	w.met["scavenged alone"]++
}

// wantJustCurrent: that just the current generation's chains are held.
func (w *world) wantJustCurrent(s stat) {
	w.t.Helper()
	gen := len(w.trees) - 1
	if want := heldBy(w.trees[gen], w.tasks[gen], w.tasks[gen]); s.held != want || s.held+s.free != w.heap {
		w.fail("W7: %+v, want %d held", s, want)
	}
}

// fits: W8, whether the heap has that room.
func (w *world) fits(j *job) bool {
	gen := len(w.trees) - 1
	all := treeOf(w.trees[gen]).need() + treeOf(j.tree).need() + sectors(memoSize(w.tasks[gen], w.tasks[gen])) + sectors(memoSize(j.tasks, j.tasks))
	for _, f := range j.tree {
		all += sectors(len(f.data))
	}
	return j.fault.Err == api.OK && all <= w.heap
}

// wantWhole: what is told of the whole at any time.
func (w *world) wantWhole() {
	w.t.Helper()
	s := w.stat()
	if s.gen != len(w.trees)-1 || s.pins != len(w.pins) || s.hurt {
		w.fail("W1: %+v", s)
	}
	if key := fmt.Sprintf("%x", treeOf(w.trees[s.gen]).key()); s.key != key {
		w.fail("W5, W10: the key %s, want %s", s.key, key)
	}
	w.want("W9", "check", "ok -1")
}

// wantTree: that a pin's tree is just that of its generation.
func (w *world) wantTree(pin int) {
	w.t.Helper()
	files := w.trees[w.pins[pin]]
	root := treeOf(files)
	for _, f := range files {
		w.want("W3", fmt.Sprintf("read %d %s", pin, short(f.path)), "ok "+answered(f.data))
	}
	w.want("W3", fmt.Sprintf("list %d \"\"", pin), root.listing())
	for _, path := range allDirs(files)[1:] {
		d, _, _, _ := root.at(path)
		w.want("W3", fmt.Sprintf("list %d %s", pin, short(path)), d.listing())
	}
	path := w.onePath(w.pins[pin])
	if _, _, err, _ := root.at(path); err != 0 {
		w.want("W3", fmt.Sprintf("read %d %s", pin, short(path)), fmt.Sprint("error ", err))
	}
}

// 22.7, W1 to W3, W5, W7, W10, W11: scripts by chance, beside the model of maps.
func TestWorlds(t *testing.T) {
	const groups, worlds, calls = 8, 10, 250
	var all [groups]map[string]int
	t.Run("all", func(t *testing.T) {
		for group := range groups {
			all[group] = map[string]int{}
			t.Run(fmt.Sprint(group), func(t *testing.T) {
				t.Parallel()
				for i := range worlds {
					newWorld(t, int64(group*worlds+i), all[group]).live(calls)
				}
			})
		}
	})
	met := map[string]int{}
	for _, some := range all {
		for what, count := range some {
			met[what] += count
		}
	}
	for _, want := range []string{"published", "a build waits", "a scavenging waits", "fault 60", "fault 217", "fault 160", "fault 142", "results are used", "a journal is full", "too late", "a reading ends", "a reading's pin is gone", "scavenged alone", "scavenged without a pin", "there is room", "a root that was not answered counts"} {
		if met[want] < 3 {
			t.Errorf("%q came %d times", want, met[want])
		}
	}
}
