package term

import (
	"math"
	"slices"
	"strings"
	"testing"

	"kiln/api"
)

// 14.2: a budget is only a bound: of each term every budget up to what it takes, and more.
func TestBudgetIsBound(t *testing.T) {
	for seed := range int64(1500) {
		c := newChance(seed, []int{0, 10, 40}[seed%3])
		x, ins := c.term(1+c.Intn(5)), c.files()
		v, steps, err := Run(x, ins, math.MaxInt)
		if err == api.OK {
			if steps < 1 {
				t.Fatalf("14.2: Run(%s) took %d steps", shown(x), steps)
			}
			wantSteps(t, x, ins, string(v), steps)
			for budget := range min(steps, 600) {
				wantErr(t, x, ins, budget, api.ErrBudget)
			}
			wantRun(t, x, ins, steps+c.Intn(1000), string(v), steps)
			continue
		}
		from := 0
		for _, _, e := Run(x, ins, from); e == api.ErrBudget; _, _, e = Run(x, ins, from) {
			from++
		}
		for budget := from; budget < from+50; budget++ {
			wantErr(t, x, ins, budget, err)
		}
		wantErrFrom(t, x, ins, err, from)
	}
}

// 14.2: budgets below 1 are none.
func TestNoBudget(t *testing.T) {
	for _, budget := range []int{0, -1, -64, math.MinInt, math.MinInt + 1} {
		for _, x := range []api.Term{lit(""), nothing, in("no"), name("no"), failing(lit("")), lit(strings.Repeat("a", most+1)), cats(), call(api.TCount, lit("a"), lit(""))} {
			wantErr(t, x, nil, budget, api.ErrBudget)
		}
	}
}

// paths that the TIns of a term name.
func paths(x api.Term) []string {
	var l []string
	if x.Kind == api.TIn {
		l = append(l, x.Text)
	}
	for _, a := range x.Args {
		l = append(l, paths(a)...)
	}
	return l
}

// firsts: of each path that is named the first file alone.
func firsts(ins []api.File, named []string) []api.File {
	var l []api.File
	for _, f := range ins {
		if slices.Contains(named, f.Path) && !slices.ContainsFunc(l, func(g api.File) bool { return g.Path == f.Path }) {
			l = append(l, f)
		}
	}
	return l
}

// 14.3: files that are not named, files behind the first of their path, and the order of files with unlike paths turn nothing.
func TestOtherFiles(t *testing.T) {
	for seed := range int64(3000) {
		c := newChance(seed, []int{0, 30}[seed%2])
		x, ins := c.term(1+c.Intn(5)), c.files()
		v, steps, err := Run(x, ins, math.MaxInt)
		named := paths(x)
		few := firsts(ins, named)
		var more []api.File
		c.Shuffle(len(few), func(i, j int) { few[i], few[j] = few[j], few[i] })
		for _, f := range few {
			more = append(more, api.File{Path: "not/named", Data: []byte(c.bytes())}, f, api.File{Path: f.Path, Data: []byte(c.bytes())})
		}
		more = append(more, api.File{Path: "too/long", Data: make([]byte, most+1)}, api.File{Path: "x\n"})
		for _, other := range [][]api.File{few, more} {
			for _, budget := range []int{math.MaxInt, steps, steps - 1, c.Intn(40)} {
				w, n, e := Run(x, ins, budget)
				if w2, n2, e2 := Run(x, other, budget); string(w) != string(w2) || n != n2 || e != e2 {
					t.Fatalf("14.3: Run(%s, .., %d) with other files: %q, %d, %d, want %q, %d, %d", shown(x), budget, w2, n2, e2, w, n, e)
				}
			}
		}
		if w, n, e := Run(x, more, math.MaxInt); string(w) != string(v) || n != steps || e != err {
			t.Fatalf("14.3: Run(%s) with more files: %q, %d, %d", shown(x), w, n, e)
		}
	}
}

// 14.4: steps add up.
func TestStepsAddUp(t *testing.T) {
	for seed := range int64(4000) {
		c := newChance(seed, 0)
		a, b, ins := c.term(1+c.Intn(4)), c.term(1+c.Intn(4)), c.files()
		v, i, err := Run(a, ins, math.MaxInt)
		w, j, other := Run(b, ins, math.MaxInt)
		if err != api.OK || other != api.OK { // b of a replace or a count has no byte
			continue
		}
		m, n := len(v), len(w)
		wantSteps(t, cats(a, b), ins, string(v)+string(w), 1+i+j+up(m+n))
		wantSteps(t, call(api.TUpper, a), ins, mapPlainly(string(v), small, big), 1+i+2*up(m))
		if m > 0 {
			wantSteps(t, ifs(a, b, nothing), ins, string(w), 1+i+j+up(n))
			wantSteps(t, ifs(a, b, failing(b)), ins, string(w), 1+i+j+up(n))
		} else {
			wantSteps(t, ifs(a, nothing, b), ins, string(w), 1+i+j+up(n))
		}
	}
}

// wantSame: two terms have one value.
func wantSame(t *testing.T, x, y api.Term, ins []api.File) {
	t.Helper()
	v, _, err := Run(x, ins, math.MaxInt)
	w, _, other := Run(y, ins, math.MaxInt)
	if string(v) != string(w) || err != api.OK || other != api.OK {
		t.Fatalf("14.5: %s is %q, %d, but %s is %q, %d", shown(x), v, err, shown(y), w, other)
	}
}

// 14.5: the values are what they are by themselves.
func TestValues(t *testing.T) {
	for seed := range int64(4000) {
		c := newChance(seed, 0)
		a, ins := c.term(1+c.Intn(4)), c.files()
		v, _, err := Run(a, ins, math.MaxInt)
		if err != api.OK {
			continue
		}
		sort, uniq := call(api.TSort, a), call(api.TUniq, a)
		wantSame(t, call(api.TUpper, call(api.TLower, a)), call(api.TUpper, a), ins)
		wantSame(t, call(api.TSort, sort), sort, ins)
		wantSame(t, call(api.TUniq, uniq), uniq, ins)
		texts := textsPlainly(string(v))
		slices.Sort(texts)
		once := ""
		for _, text := range slices.Compact(texts) {
			once += text + "\n"
		}
		wantValue(t, call(api.TUniq, sort), ins, once)
		k := c.Intn(6)
		for _, m := range []int{math.MaxInt, api.MaxNumber} {
			wantSame(t, cats(part(a, 0, k), part(a, k, m)), a, ins)
		}
		b := lit([]string{"a", "\n", "ab", "\xff", "a\n"}[c.Intn(5)])
		wantSame(t, call(api.TReplace, a, b, b), a, ins)
		want := string(v)
		if want != "" && !strings.HasSuffix(want, "\n") {
			want += "\n"
		}
		wantValue(t, eachs("x", a, cats(name("x"), lit("\n"))), ins, want)
		wantSame(t, ifs(a, a, lit("")), a, ins)
	}
}
