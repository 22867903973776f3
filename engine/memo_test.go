package engine

import (
	"bytes"
	"slices"
	"testing"

	"kiln/api"
)

// someMemo: prints with 1 to 8 refs, at their bounds.
func someMemo(prints int) memo {
	m := memo{}
	for i := range prints {
		var refs []api.Ref
		for j := range 1 + i%api.MaxOuts {
			refs = append(refs, api.Ref{Hash: api.Key{byte(j), byte(i)}, First: []int{0, 300, api.MaxSectors - 1}[j%3], Len: []int{0, 70000, api.MaxFile}[i%3]})
		}
		m[api.Key{byte(i * 7), byte(i >> 3)}] = refs
	}
	return m
}

// 21: the memo's bytes are as the chapter has them, and are read back.
func TestMemoBytes(t *testing.T) {
	if b := (memo{}).bytes(); !bytes.Equal(b, []byte{2, 0}) {
		t.Errorf("21: the empty memo: %x", b)
	}
	for _, n := range []int{0, 1, 2, 9, 127, 128, api.MaxTasks} {
		m := someMemo(n)
		b := m.bytes()
		if len(m) != n || !bytes.Equal(b, memoBytes(m)) {
			t.Fatalf("21: a memo of %d prints: %x, want %x", n, b, memoBytes(m))
		}
		got, ok := readMemo(b)
		if !ok || len(got) != n {
			t.Fatalf("21: a memo of %d prints is not read", n)
		}
		for print, refs := range m {
			if !slices.Equal(got[print], refs) {
				t.Errorf("21: %v, want %v", got[print], refs)
			}
		}
	}
}

// 21.2: bytes that are no memo's.
func TestNoMemo(t *testing.T) {
	whole := someMemo(3).bytes()
	for n := range whole {
		if _, ok := readMemo(whole[:n]); ok {
			t.Errorf("21.2: the first %d bytes of a memo are one", n)
		}
	}
	with := func(at int, v ...byte) []byte {
		b := bytes.Clone(whole)
		copy(b[at:], v)
		return b
	}
	one := func(print byte) []byte {
		m := memo{{print}: {{First: 5, Len: 6}}}
		return m.bytes()[2:]
	}
	for what, b := range map[string][]byte{
		"nothing":           nil,
		"another mark":      with(0, 1),
		"one print more":    with(1, 4),
		"one print less":    with(1, 2),
		"a byte behind":     append(bytes.Clone(whole), 0),
		"no refs":           with(2+32, 0),
		"a wide number":     append([]byte{2, 0x83, 0}, whole[2:]...),
		"First too great":   with(2+33+32, 0, 0, 1, 0),
		"First very great":  with(2+33+32, 0, 0, 0, 0xff),
		"Len too great":     with(2+33+36, 1, 0, 4, 0),
		"a print twice":     slices.Concat([]byte{2, 2}, one(1), one(1)),
		"prints that fall":  slices.Concat([]byte{2, 2}, one(2), one(1)),
		"257 prints":        someMemo(257).bytes(),
		"one more than are": append([]byte{2, 0x80, 2}, someMemo(255).bytes()[3:]...),
		"very many prints":  {2, 0xff, 0xff, 0xff, 0xff, 0xff, 0xff, 0xff, 0xff, 0xff, 1},
		"no number":         {2, 0x80},
		"nine refs":         append([]byte{2, 1}, append(append(make([]byte, 32), 9), make([]byte, 9*40)...)...),
		"a node":            {1, 0},
		"the mark alone":    {2},
		"one with no print": {2, 1},
	} {
		if _, ok := readMemo(b); ok {
			t.Errorf("21.2: %s is a memo", what)
		}
		h := newHandDisk(t, 400)
		h.memo(b)
		h.wantFlaw(h.slot.Memo.First)
	}
	h := newHandDisk(t, 400)
	h.memo(whole)
	h.wantFlaw(none)
}

// 21.4: what a memo tells is used where it is whole and known; on a disk that an engine wrote it always is.
func TestForeignMemo(t *testing.T) {
	m := text("t", "o", "x")
	print := prints(m, nil)["t"]
	h := newHandDisk(t, 80)
	ref := h.lay([]byte("x"))
	h.memo(memo{print: {ref}}.bytes()) // but the tree is empty, and the chain is nobody's
	g := &ground{t: t, disk: h.disk, Engine: h.open()}
	g.publish(m)
	if s := g.Stat(); s.Runs != 1 {
		t.Errorf("21.4: %+v", s)
	}
	// Of two the one is known: it has no use more than its own.
	h = newHandDisk(t, 80)
	other, both := h.file("q", "y"), lines("task t 999", "out q = \"y\"", "out o = \"x\"", "end")
	h.root(other)
	h.memo(memo{prints(both, nil)["t"]: {other.Ref, ref}}.bytes())
	g = &ground{t: t, disk: h.disk, Engine: h.open()}
	g.begin(both)
	g.step(1)
	if n := g.Engine.store.Uses(other.Ref); n != 2 || g.Stat().Runs != 1 { // the tree's, and the put's
		t.Errorf("21.4: %d uses, %+v", n, g.Stat())
	}
	h = newHandDisk(t, 80)
	e := h.file("o", "x")
	h.root(e)
	h.memo(memo{print: {e.Ref}}.bytes())
	g = &ground{t: t, disk: h.disk, Engine: h.open()}
	if n := g.publish(m); n != 3 || g.Stat().Runs != 0 {
		t.Errorf("21.4: %d acts, %+v", n, g.Stat())
	}
}
