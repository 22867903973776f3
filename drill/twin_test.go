package drill

import (
	"bytes"
	"fmt"
	"slices"
	"strconv"
	"strings"
	"testing"

	"kiln/api"
	"kiln/den"
	"kiln/disk"
	"kiln/engine"
)

// twin: what a drill does, once more: 22.4's tables in their own words.
type twin struct {
	disk    *disk.Disk
	engine  *engine.Engine
	reading *engine.Reading
	source  []api.File
}

// do: a line's answer.
func (w *twin) do(line string) string {
	if len(line) > 4096 {
		return "error 223"
	}
	words, ok := plainWords(line)
	if !ok {
		return "error 220"
	}
	if len(words) == 0 {
		return ""
	}
	l, ok := lines[words[0].text]
	var kinds string
	var n []int
	var s []string
	for _, x := range words[1:] {
		kinds += string("CNT"[x.kind])
		switch x.kind {
		case aNumber:
			n = append(n, x.number)
		case aLiteral:
			s = append(s, x.text)
		}
	}
	if words[0].kind != aCommand || !ok || kinds != l.words && (l.words != "*" || strings.Trim(kinds, "N") != "") {
		return "error 220"
	}
	has := nothing
	switch {
	case w.reading != nil:
		has = aReading
	case w.engine != nil:
		has = anEngine
	case w.disk != nil:
		has = aDisk
	}
	if lacks := wantLacks(l.needs, has); lacks != "" {
		return lacks
	}
	if l.needs >= anEngine {
		return w.opened(words[0].text, n, s)
	}
	return w.closed(words[0].text, n, s)
}

// closed: a line that needs nothing open.
func (w *twin) closed(command string, n []int, s []string) string {
	at := -1
	for i, f := range w.source {
		if len(s) > 0 && f.Path == s[0] {
			at = i
		}
	}
	switch command {
	case "format":
		d, err := disk.New(n[0])
		if err == api.OK {
			err = engine.Format(d, n[1])
		}
		if err != api.OK {
			return fmt.Sprintf("error %d", err)
		}
		w.disk, w.engine, w.reading = d, nil, nil
		return "ok"
	case "open":
		var err api.Errno
		w.reading = nil
		w.engine, err = engine.Open(w.disk)
		if err != api.OK {
			return fmt.Sprintf("error %d", err)
		}
		return fmt.Sprintf("ok %d %d%s", w.engine.Stat().Gen, w.engine.Stat().Kept, w.hurt())
	case "source":
		f := api.File{Path: s[0], Data: []byte(s[1])}
		if at < 0 {
			w.source = append(w.source, f)
		} else {
			w.source[at] = f
		}
	case "unsource":
		if at < 0 {
			return "error 90"
		}
		w.source = append(append([]api.File{}, w.source[:at]...), w.source[at+1:]...)
	case "den":
		return w.den(s[0])
	case "crash":
		w.engine, w.reading = nil, nil
		w.disk.Crash(n...)
		return "ok"
	case "turn":
		if err := w.disk.Turn(n[0], n[1]); err != api.OK {
			return fmt.Sprintf("error %d", err)
		}
		return "ok"
	}
	return fmt.Sprintf("ok %d", len(w.source))
}

// den: what a manifest means.
func (w *twin) den(manifest string) string {
	files, fault := den.Den(manifest, w.source)
	if fault.Err == api.ErrSource {
		return fmt.Sprintf("fault %d %d", fault.Err, fault.Place)
	}
	if fault.Err != api.OK {
		return fmt.Sprintf("fault %d %d %s", fault.Err, fault.Line, answered(fault.Task))
	}
	answer := "ok"
	for _, f := range files {
		answer += fmt.Sprintf(" %s:%d", f.Path, len(f.Data))
	}
	return answer
}

// hurt: the word that ends an answer.
func (w *twin) hurt() string {
	if w.engine.Stat().Hurt {
		return " hurt"
	}
	return ""
}

// opened: a line that needs an engine.
func (w *twin) opened(command string, n []int, s []string) string {
	e := w.engine
	answer, err := "ok", api.OK
	switch command {
	case "build":
		var place int
		place, err = e.Begin(s[0], w.source)
		if err == api.ErrSource {
			return fmt.Sprintf("error 162 %d", place)
		}
	case "step", "run", "sweep":
		return w.goOn(command, n)
	case "cancel":
		err = e.Cancel()
	case "pin":
		var pin, gen int
		pin, gen, err = e.Pin()
		answer = fmt.Sprintf("ok %d %d", pin, gen)
	case "unpin":
		err = e.Unpin(n[0])
	case "read":
		var b []byte
		b, err = e.Read(n[0], s[0])
		answer = "ok " + answered(string(b))
	case "list":
		var l []api.Listed
		l, err = e.List(n[0], s[0])
		for _, x := range l {
			answer += map[bool]string{true: " " + x.Name + "/", false: " " + x.Name + ":" + strconv.Itoa(x.Len)}[x.Dir]
		}
	case "reading":
		var r *engine.Reading
		r, err = e.Reading(n[0], s[0])
		if err == api.OK {
			w.reading = r
		}
	case "more":
		var b []byte
		var ended bool
		b, ended, err = w.reading.More(n[0])
		answer = "ok going"
		if ended {
			answer = "ok " + answered(string(b))
		}
		if ended || err != api.OK && err != api.ErrSteps {
			w.reading = nil
		}
	case "scavenge":
		err = e.Scavenge()
	case "check":
		answer = fmt.Sprintf("ok %d", e.Check())
	case "stat":
		t := e.Stat()
		answer = fmt.Sprintf("ok %d %d %d %d %d %d %d %d %d %x%s", t.Gen, t.Turn, t.Runs, t.Held, t.Spent, t.Free, t.Pins, t.Kept, t.Records, t.Key, w.hurt())
	}
	if err != api.OK {
		return fmt.Sprintf("error %d", err)
	}
	return answer
}

// goOn: a line that answers a progress.
func (w *twin) goOn(command string, n []int) string {
	do := w.engine.Step
	if command == "sweep" {
		do = w.engine.Sweep
	}
	if command == "run" {
		n = []int{1}
	}
	p, err := do(n[0])
	if err != api.OK {
		return fmt.Sprintf("error %d", err)
	}
	acts := p.Acts
	for command == "run" && !p.Ended && !p.Waits {
		p, _ = do(1)
		acts += p.Acts
	}
	switch {
	case p.Waits:
		return fmt.Sprintf("ok %d waits", acts)
	case !p.Ended:
		return fmt.Sprintf("ok %d going", acts)
	case p.Fault.Err == api.OK && command == "sweep":
		return fmt.Sprintf("ok %d done", acts)
	case p.Fault.Err == api.OK:
		return fmt.Sprintf("ok %d done %d", acts, p.Gen)
	case command == "sweep":
		return fmt.Sprintf("ok %d fault %d", acts, p.Fault.Err)
	}
	return fmt.Sprintf("ok %d fault %d %d %s", acts, p.Fault.Err, p.Fault.Line, answered(p.Fault.Task))
}

// line: by chance, of all kinds, mostly such that something comes of it.
func (c chance) line() string {
	switch c.Intn(44) {
	case 0:
		if c.Intn(4) > 0 {
			return "format " + c.of("60 8", "40 9", "90 8")
		}
		return "format " + c.of("12 8", c.number()+" 8", "60 "+c.number())
	case 1, 2, 3, 4:
		return "open"
	case 5, 6:
		return "source " + c.literal(c.of("in", "dir/t", "in", "dir/t", c.path())) + " " + c.literal(c.bytes())
	case 7:
		return "unsource " + c.literal(c.path())
	case 8:
		return "den " + c.literal(c.manifest())
	case 9:
		line := "crash"
		for range c.Intn(5) {
			line += " " + c.number()
		}
		return line
	case 10, 11, 12, 13, 14:
		return "build " + c.literal(c.manifest())
	case 15, 16, 17, 18, 19, 20:
		return "step " + c.number()
	case 21, 22, 23:
		return "run"
	case 24:
		return c.of("cancel", "check", "check", "stat", "stat", "unpin "+c.number())
	case 25, 26:
		return "pin"
	case 27, 28:
		return "read " + c.number() + " " + c.literal(c.path())
	case 29:
		return "list " + c.number() + " " + c.literal(c.of("", "", "d", "d/e", c.path()))
	case 30, 31:
		return "reading " + c.number() + " " + c.literal(c.path())
	case 32, 33, 34:
		return "more " + c.number()
	case 35, 36:
		return "scavenge"
	case 37, 38, 39, 40, 41:
		return "sweep " + c.number()
	case 42:
		return "stat"
	}
	return c.junk()
}

// literal: bytes, written in one of many ways.
func (c chance) literal(s string) string {
	if c.Intn(4) == 0 && 4*len(s) < 4000 {
		return every(s)
	}
	return short(s)
}

// junk: pieces of lines.
func (c chance) junk() string {
	var line string
	for range c.Intn(5) {
		line += c.of("", " ", "\t") + c.of("#", "stat", "more 1", "pin", "\"a\"", "\"\\", "1", "-0", "read", "format", "é", "\xff") + c.of(" ", " ", "\t", "")
	}
	return line
}

// wantTwin: that a drill and its twin answer lines alike.
func wantTwin(t *testing.T, seed int64, calls int, line func(chance) string) {
	t.Helper()
	c := newChance(seed)
	x, w := New(), &twin{}
	first := []string{"source \"in\" \"b\\na\\n\"", "source \"dir/t\" \"\"", "format 60 8", "open"}
	for i := range calls {
		l := line(c)
		if i < len(first) && seed%4 > 0 {
			l = first[i]
		}
		got, want := x.Do(l), w.do(l)
		if got != want {
			t.Fatalf("22.4: seed %d, line %d, %.200q: %.300q, want %.300q", seed, i, l, got, want)
		}
	}
	got := x.Image()
	if w.disk == nil {
		if got != nil {
			t.Fatalf("22.1: seed %d: %d sectors", seed, len(got))
		}
		return
	}
	if !slices.EqualFunc(got, w.disk.Image(), bytes.Equal) {
		t.Fatalf("22.1: seed %d: another image", seed)
	}
}

// 22.4: chance lines beside the calls that they stand for.
func TestTwin(t *testing.T) {
	for group := range int64(8) {
		t.Run(fmt.Sprint(group), func(t *testing.T) {
			t.Parallel()
			for i := range int64(25) {
				wantTwin(t, group*25+i, 300, chance.line)
			}
		})
	}
}
