package store

import (
	"bytes"
	"math/rand"
	"slices"
	"testing"

	"kiln/api"
	"kiln/chain"
	"kiln/disk"
	"kiln/space"
)

// model: chapter 7 read plainly, over the same disk, with lists that are gone through whole.
type model struct {
	t        *testing.T
	r        *rand.Rand
	d        *disk.Disk
	sp       *space.Space
	s        *Store
	strings  [][]byte
	chains   []*modelChain // in the order in which they came to be known
	standing map[api.Key]api.Ref
	free     []int // rising
	spent    []int
	puts     []*modelPut
	refs     []api.Ref // all that were ever seen
	sectors  [][]byte  // what the disk has
}

type modelChain struct {
	ref     api.Ref
	uses    int
	sectors []int
}

type modelPut struct {
	p       *Put
	b       []byte
	begun   bool
	reader  *chain.Reader // as long as it reads
	found   api.Ref
	broken  bool
	taken   []int
	written int
	ended   bool
	err     api.Errno
	ref     api.Ref
}

func (m *model) at(ref api.Ref) *modelChain {
	for _, c := range m.chains {
		if c.ref == ref {
			return c
		}
	}
	return nil
}

func (m *model) learn(ref api.Ref, sectors []int) {
	m.chains = append(m.chains, &modelChain{ref, 1, sectors})
	if m.standing[ref.Hash] == (api.Ref{}) {
		m.standing[ref.Hash] = ref
	}
}

func (m *model) less(ref api.Ref, undo bool) api.Errno {
	c := m.at(ref)
	if c == nil {
		return api.ErrRef
	}
	c.uses--
	if c.uses > 0 {
		return api.OK
	}
	m.chains = slices.DeleteFunc(m.chains, func(x *modelChain) bool { return x == c })
	if m.standing[ref.Hash] == ref {
		delete(m.standing, ref.Hash)
		for _, x := range m.chains {
			if x.ref.Hash == ref.Hash {
				m.standing[ref.Hash] = x.ref
				break
			}
		}
	}
	if undo {
		m.give(c.sectors)
	} else {
		m.spent = append(m.spent, c.sectors...)
	}
	return api.OK
}

func (m *model) give(sectors []int) {
	m.free = append(m.free, sectors...)
	slices.Sort(m.free)
}

func (m *model) know(ref api.Ref) (int, api.Errno) {
	if c := m.at(ref); c != nil {
		c.uses++
		return 0, api.OK
	}
	if _, n, err := chain.Get(m.d, m.sp.From(), ref); err != api.OK {
		return n, err
	}
	r, _ := chain.NewReader(m.d, m.sp.From(), ref)
	for ended := false; !ended; {
		ended, _ = r.Step()
	}
	for _, n := range r.Numbers() {
		if !slices.Contains(m.free, n) {
			return n, api.ErrBroken
		}
	}
	m.claim(r.Numbers())
	m.learn(ref, r.Numbers())
	return 0, api.OK
}

func (m *model) claim(sectors []int) {
	m.free = slices.DeleteFunc(m.free, func(n int) bool { return slices.Contains(sectors, n) })
}

// step: what a Step does: which Reads and Writes, and what lies on the disk behind it.
func (m *model) step(p *modelPut) (reads, writes int) {
	if p.ended {
		return 0, 0
	}
	hash := refOf(p.b, 0).Hash
	if !p.begun {
		p.begun = true
		if ref := m.standing[hash]; ref != (api.Ref{}) {
			m.at(ref).uses++
			p.found = ref
			p.reader, _ = chain.NewReader(m.d, m.sp.From(), ref)
		}
	}
	if p.reader != nil {
		ended, err := p.reader.Step()
		if ended {
			p.reader = nil
		}
		if ended && err == api.OK {
			p.ended, p.ref = true, p.found
		} else if ended {
			p.broken = true
			m.less(p.found, false)
		}
		return 1, 0
	}
	if p.taken == nil {
		need := max(1, (len(p.b)+479)/480)
		if need > len(m.free) {
			p.ended, p.err = true, api.ErrNoSpace
			return 0, 0
		}
		p.taken = slices.Clone(m.free[:need])
		m.claim(p.taken)
	}
	n := p.taken[p.written]
	m.sectors[n] = chained(p.b, p.taken)[p.written]
	p.written++
	if p.written == len(p.taken) {
		p.ended, p.ref = true, refOf(p.b, p.taken[0])
		m.learn(p.ref, p.taken)
		if p.broken && m.standing[hash] == p.found {
			m.standing[hash] = p.ref
		}
	}
	return 0, 1
}

func (m *model) leave(p *modelPut) {
	if p.ended {
		return
	}
	if p.reader != nil {
		m.less(p.found, false)
	}
	m.give(p.taken)
	p.taken, p.ended, p.err = nil, true, api.ErrRef
}

// held: the sectors of known chains and of puts under way, each with how often it is one.
func (m *model) held() map[int]int {
	held := map[int]int{}
	for _, c := range m.chains {
		for _, n := range c.sectors {
			held[n]++
		}
	}
	for _, p := range m.puts {
		if !p.ended {
			for _, n := range p.taken {
				held[n]++
			}
		}
	}
	return held
}

// compare: the store tells just what the model does, and the disk and the space are as it says.
func (m *model) compare(what string) {
	m.t.Helper()
	held := m.held()
	for n, times := range held {
		if times > 1 || slices.Contains(m.free, n) || slices.Contains(m.spent, n) {
			m.t.Fatalf("%s: the model itself has %d twice", what, n)
		}
	}
	if m.s.Held() != len(held) || m.s.Spent() != len(m.spent) || !slices.Equal(m.sp.List(), m.free) {
		m.t.Fatalf("%s: held %d, spent %d, free %v, want %d, %d, %v", what, m.s.Held(), m.s.Spent(), m.sp.List(), len(held), len(m.spent), m.free)
	}
	if m.s.Held()+m.s.Spent()+m.sp.Free() != m.sp.To()-m.sp.From() {
		m.t.Fatalf("%s: the account is wrong", what)
	}
	var refs []api.Ref
	for _, c := range m.chains {
		refs = append(refs, c.ref)
	}
	slices.SortFunc(refs, func(a, b api.Ref) int { return a.First - b.First })
	if !slices.Equal(m.s.Refs(), refs) {
		m.t.Fatalf("%s: Refs %v, want %v", what, m.s.Refs(), refs)
	}
	for _, ref := range m.refs {
		uses, sectors := 0, []int(nil)
		if c := m.at(ref); c != nil {
			uses, sectors = c.uses, c.sectors
		}
		if m.s.Uses(ref) != uses || !slices.Equal(m.s.Sectors(ref), sectors) {
			m.t.Fatalf("%s: %v has %d uses, sectors %v, want %d, %v", what, ref, m.s.Uses(ref), m.s.Sectors(ref), uses, sectors)
		}
	}
	for _, b := range m.strings {
		hash := refOf(b, 0).Hash
		want, stands := m.standing[hash]
		if at, ok := m.s.Find(hash); at != want || ok != stands {
			m.t.Fatalf("%s: Find %v, %t, want %v, %t", what, at, ok, want, stands)
		}
	}
	for _, p := range m.puts {
		wrote := p.ended && p.err == api.OK && p.taken != nil
		if p.p.Ref() != p.ref || p.p.Wrote() != wrote || !slices.Equal(p.p.Taken(), p.taken) {
			m.t.Fatalf("%s: a put: %v, %t, %v, want %v, %t, %v", what, p.p.Ref(), p.p.Wrote(), p.p.Taken(), p.ref, wrote, p.taken)
		}
	}
	for n, want := range m.sectors {
		if got, _ := m.d.Read(n); !bytes.Equal(got, want) {
			m.t.Fatalf("%s: the sector %d is another", what, n)
		}
	}
}

func (m *model) ref() api.Ref {
	if len(m.refs) == 0 {
		return api.Ref{}
	}
	return m.refs[m.r.Intn(len(m.refs))]
}

// lay lays a chain out by hand, over sectors that are free.
func (m *model) lay() {
	b := m.strings[m.r.Intn(len(m.strings))]
	need := max(1, (len(b)+479)/480)
	if need > len(m.free) {
		return
	}
	var numbers []int
	for _, i := range m.r.Perm(len(m.free))[:need] {
		numbers = append(numbers, m.free[i])
	}
	m.refs = append(m.refs, layOut(m.t, m.d, b, numbers...))
	for k, s := range chained(b, numbers) {
		m.sectors[numbers[k]] = s
	}
}

func (m *model) turn() {
	n, bit := m.sp.From()+m.r.Intn(m.sp.To()-m.sp.From()), m.r.Intn(4096)
	m.d.Turn(n, bit)
	m.sectors[n] = slices.Clone(m.sectors[n])
	m.sectors[n][bit/8] ^= 1 << (bit % 8)
}

func (m *model) stepOne() {
	if len(m.puts) == 0 {
		return
	}
	p := m.puts[m.r.Intn(len(m.puts))]
	reads, writes := m.step(p)
	acts := m.d.Acts()
	if ended, err := p.p.Step(); ended != p.ended || err != p.err {
		m.t.Fatalf("Step: %t, %d, want %t, %d", ended, err, p.ended, p.err)
	}
	wantActs(m.t, m.d, acts, reads, writes)
	if p.ended && p.err == api.OK {
		m.refs = append(m.refs, p.ref)
	}
	if p.ended && m.r.Intn(4) == 0 {
		m.puts = slices.DeleteFunc(m.puts, func(x *modelPut) bool { return x == p })
	}
}

func (m *model) wantErr(what string, err, want api.Errno) {
	m.t.Helper()
	if err != want {
		m.t.Fatalf("%s: %d, want %d", what, err, want)
	}
}

// act does one thing by chance, to the store and to the model.
func (m *model) act() string {
	ref := m.ref()
	switch m.r.Intn(20) {
	case 0, 1:
		if len(m.puts) < 5 {
			b := m.strings[m.r.Intn(len(m.strings))]
			m.puts = append(m.puts, &modelPut{p: begun(m.t, m.s, b), b: b})
		}
		return "Put"
	case 2:
		if len(m.puts) > 0 {
			p := m.puts[m.r.Intn(len(m.puts))]
			m.leave(p)
			p.p.Leave()
		}
		return "Leave"
	case 3:
		m.lay()
		return "laid out"
	case 4, 5:
		n, err := m.know(ref)
		if got, e := m.s.Know(ref); got != n || e != err {
			m.t.Fatalf("Know(%v): %d, %d, want %d, %d", ref, got, e, n, err)
		}
		return "Know"
	case 6:
		want := api.ErrRef
		if c := m.at(ref); c != nil {
			c.uses++
			want = api.OK
		}
		m.wantErr("Use", m.s.Use(ref), want)
		return "Use"
	case 7, 8:
		m.wantErr("Drop", m.s.Drop(ref), m.less(ref, false))
		return "Drop"
	case 9, 10:
		m.wantErr("Undo", m.s.Undo(ref), m.less(ref, true))
		return "Undo"
	case 11:
		count := len(m.spent)
		m.give(m.spent)
		m.spent = nil
		if n := m.s.Sweep(); n != count {
			m.t.Fatalf("Sweep: %d, want %d", n, count)
		}
		return "Sweep"
	case 12:
		if m.r.Intn(3) == 0 {
			m.turn()
		}
		return "turned"
	case 13:
		wantGot(m.t, m.d, m.s, ref)
		return "Get"
	}
	m.stepOne()
	return "Step"
}

// Test7_12: chance scripts, several puts under way, bits turned over, against the model: each answer, each act, the account (7.12), what is written where (7.13).
func Test7_12(t *testing.T) {
	r := rand.New(rand.NewSource(712))
	for range 150 {
		d, sp, s := shop(t, 24, 5, 5+4+r.Intn(14))
		m := &model{t: t, r: r, d: d, sp: sp, s: s, standing: map[api.Key]api.Ref{}, free: sp.List()}
		for _, n := range []int{0, 1, 480, 481, 961, 1441} {
			if r.Intn(2) == 0 {
				m.strings = append(m.strings, random(r, n))
			}
		}
		m.strings = append(m.strings, fill(9, 900))
		for range d.Sectors() {
			m.sectors = append(m.sectors, make([]byte, 512))
		}
		for range 400 {
			what := m.act()
			m.compare(what)
		}
	}
}
