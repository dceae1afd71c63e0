package trial

import (
	"math"
	"math/rand"
	"slices"
	"testing"

	"mosaic/api"
	"mosaic/gauss"
	"mosaic/inner"
	"mosaic/manifest"
	"mosaic/outer"
	"mosaic/peel"
)

func code(n, d, q, f int) api.Code {
	return api.Code{Eps: api.Ratio{N: n, D: d}, Q: q, F: f}
}

// published is a manifest and its whole, of a file of all kinds of bytes.
type published struct {
	m     api.Manifest
	whole []string
}

// files are published ones of all kinds: of few blocks and of many, some that are done soon, some late, and some never.
func files(t *testing.T) []published {
	r := rand.New(rand.NewSource(1))
	var l []published
	for _, x := range []struct {
		long, size, seed int
		c                api.Code
	}{
		{12, 3, 9, code(1, 2, 2, 4)}, {5, 2, 0, code(1, 2, 1, 4)}, {1, 1, 0, code(1, 2, 1, 4)}, {20, 3, 1, code(1, 2, 1, 2)}, {2, 1, 3, code(1, 1, 8, 64)}, {30, 1, 77, code(1, 2, 3, 8)}, {30, 2, 5, code(1, 1, 1, 3)},
		{96, 1, api.MaxSeed, code(1, 1, 8, 64)}, {4096, 64, 1 << 55, code(1, 64, 3, 64)}, {300, 20, 255, code(16, 999, 3, 63)}, {96, 1, 4, code(1, 4, 2, 6)},
	} {
		file := make([]byte, x.long)
		r.Read(file)
		m, w, e := manifest.Publish(string(file), manifest.Want{Size: x.size, Seed: x.seed, Code: x.c})
		if e != api.OK {
			t.Fatalf("Publish of %v: %v", x, e)
		}
		l = append(l, published{m, w})
	}
	return l
}

// wrongManifests are some that may not be, in one part each.
func wrongManifests(t *testing.T) []api.Manifest {
	var l []api.Manifest
	for _, change := range []func(m *api.Manifest){
		func(m *api.Manifest) { *m = api.Manifest{} },
		func(m *api.Manifest) { m.Long = 0 }, func(m *api.Manifest) { m.Long = math.MaxInt }, func(m *api.Manifest) { m.Size = 65 }, func(m *api.Manifest) { m.Size = math.MinInt },
		func(m *api.Manifest) { m.Seed = -1 }, func(m *api.Manifest) { m.Seed = api.MaxSeed + 1 },
		func(m *api.Manifest) { m.Code.Eps = api.Ratio{} }, func(m *api.Manifest) { m.Code.Q = 9 }, func(m *api.Manifest) { m.Code.F = 65 }, func(m *api.Manifest) { m.Code.F = math.MinInt },
		func(m *api.Manifest) { m.Root = "" }, func(m *api.Manifest) { m.Root += "x" },
	} {
		m := files(t)[0].m
		change(&m)
		l = append(l, m)
	}
	return l
}

// rowsByDocument are the rules, and the blocks of the heads.
func rowsByDocument(m api.Manifest, seed, count int) [][]int {
	p, _ := manifest.Plan(m)
	rows, _ := outer.Rules(p)
	for k := range count {
		l, _ := inner.Index(m, api.Head{Mode: api.ModeAll, Seed: seed + k})
		rows = append(rows, l)
	}
	return rows
}

// knownByDocument is what is known behind the first 0, 1, .. count heads, each time peeled from nothing.
func knownByDocument(m api.Manifest, seed, count int) [][]int {
	rows := rowsByDocument(m, seed, count)
	var all [][]int
	for k := range count + 1 {
		l, _ := peel.Known(manifest.All(m), rows[:len(rows)-count+k], nil)
		all = append(all, l)
	}
	return all
}

// neededByDocument looks behind each head, up to the last, whether all message blocks are known; -1, if it never is done.
func neededByDocument(m api.Manifest, seed, last int) int {
	p, _ := manifest.Plan(m)
	return slices.IndexFunc(knownByDocument(m, seed, last), func(known []int) bool {
		message := 0
		for _, i := range known {
			if i < p.N {
				message++
			}
		}
		return message == p.N
	})
}

// seeds are some, also such that a trial ends with the last seed.
func seeds() []int {
	return []int{0, 5, 1 << 32, api.MaxSeed - MaxTrial + 1}
}

// 27.1: the rules, and behind them the blocks of each head; how many are known behind each.
func TestRowsAndCurve(t *testing.T) {
	for _, f := range files(t) {
		for _, seed := range seeds() {
			want := rowsByDocument(f.m, seed, MaxTrial)
			rules := len(want) - MaxTrial
			var curve []int
			for _, known := range knownByDocument(f.m, seed, MaxTrial) {
				curve = append(curve, len(known))
			}
			for _, count := range []int{0, 1, 2, 30, 119, 120} {
				if l, e := Rows(f.m, seed, count); e != api.OK || !slices.EqualFunc(l, want[:rules+count], slices.Equal) {
					t.Errorf("Rows(%#v, %d, %d) = %v, %v", f.m, seed, count, l, e)
				}
				if l, e := Curve(f.m, seed, count); e != api.OK || !slices.Equal(l, curve[:count+1]) {
					t.Errorf("Curve(%#v, %d, %d) = %v, %v, want %v", f.m, seed, count, l, e, curve[:count+1])
				}
			}
		}
	}
}

// 27.1: an auxiliary block that nobody joins is known behind the rules alone.
func TestCurveBeginsAboveNothing(t *testing.T) {
	for seed := range 200 {
		m, _, _ := manifest.Publish("ab", manifest.Want{Size: 1, Seed: seed, Code: code(1, 1, 2, 2)})
		p, _ := manifest.Plan(m)
		lonely := 0
		for j := range p.Aux {
			if l, _ := outer.Members(p, j); len(l) == 0 {
				lonely++
			}
		}
		if l, e := Curve(m, 0, 0); e != api.OK || !slices.Equal(l, []int{lonely}) {
			t.Fatalf("Curve of seed %d: %v, %v, want %d", seed, l, e, lonely)
		}
		if lonely > 0 {
			return
		}
	}
	t.Error("all auxiliary blocks were joined: take other files")
}

// checkErrors asks all six for their errors.
func checkErrors(t *testing.T, m api.Manifest, seed, count int) {
	if l, e := Rows(m, seed, count); e != api.ErrArg || l != nil {
		t.Errorf("Rows(%#v, %d, %d) = %v, %v", m, seed, count, l, e)
	}
	if l, e := Curve(m, seed, count); e != api.ErrArg || l != nil {
		t.Errorf("Curve(%#v, %d, %d) = %v, %v", m, seed, count, l, e)
	}
	if l, e := Redundant(m, seed, count); e != api.ErrArg || l != nil {
		t.Errorf("Redundant(%#v, %d, %d) = %v, %v", m, seed, count, l, e)
	}
	if l, e := Degrees(m, seed, count); e != api.ErrArg || l != nil {
		t.Errorf("Degrees(%#v, %d, %d) = %v, %v", m, seed, count, l, e)
	}
}

func checkSeedErrors(t *testing.T, m api.Manifest, seed int) {
	checkErrors(t, m, seed, 0)
	checkErrors(t, m, seed, 1)
	if k, e := Needed(m, seed); e != api.ErrArg || k != 0 {
		t.Errorf("Needed(%#v, %d) = %d, %v", m, seed, k, e)
	}
	if b, k, e := Best(m, seed, 1); e != api.ErrArg || b != 0 || k != 0 {
		t.Errorf("Best(%#v, %d, 1) = %d, %d, %v", m, seed, b, k, e)
	}
}

// 27.1 to 27.3: manifests, seeds, counts and tries that may not be.
func TestErrors(t *testing.T) {
	m := files(t)[0].m
	for _, wrong := range wrongManifests(t) {
		checkSeedErrors(t, wrong, 0)
	}
	for _, seed := range []int{-1, api.MaxSeed + 1, math.MinInt, math.MaxInt} {
		checkSeedErrors(t, m, seed)
	}
	for _, count := range []int{-1, 121, math.MinInt, math.MaxInt, 1 << 32} {
		checkErrors(t, m, 0, count)
		checkErrors(t, m, api.MaxSeed, count)
	}
	checkErrors(t, m, api.MaxSeed, 2)
	checkErrors(t, m, api.MaxSeed-118, 120)
	for _, tries := range []int{0, -1, 21, math.MinInt, math.MaxInt} {
		for _, seed := range []int{0, api.MaxSeed} {
			if b, k, e := Best(m, seed, tries); e != api.ErrArg || b != 0 || k != 0 {
				t.Errorf("Best(m, %d, %d) = %d, %d, %v", seed, tries, b, k, e)
			}
		}
	}
	for _, x := range [][2]int{{api.MaxSeed, 0}, {api.MaxSeed, 1}, {api.MaxSeed - 119, 120}, {api.MaxSeed - 1, 2}} {
		if l, e := Curve(m, x[0], x[1]); e != api.OK || len(l) != x[1]+1 {
			t.Errorf("Curve(m, %d, %d) = %v, %v", x[0], x[1], l, e)
		}
	}
}

// 27.2: the least count behind which all message blocks are known; none, if there are too few check blocks.
func TestNeeded(t *testing.T) {
	done, none := 0, 0
	for _, f := range files(t) {
		for _, seed := range seeds() {
			want := neededByDocument(f.m, seed, MaxTrial)
			k, e := Needed(f.m, seed)
			if want < 0 {
				none++
				if e != api.ErrNone || k != 0 {
					t.Errorf("Needed(%#v, %d) = %d, %v: it is never done", f.m, seed, k, e)
				}
				continue
			}
			done++
			if e != api.OK || k != want {
				t.Errorf("Needed(%#v, %d) = %d, %v, want %d", f.m, seed, k, e, want)
			}
		}
	}
	if done < 10 || none < 4 {
		t.Errorf("%d were done, %d never: take other files", done, none)
	}
}

// 27.2: a trial that needs as many as it may have, and one that needs one more.
func TestNeededAtItsEdges(t *testing.T) {
	m := files(t)[10].m
	at, over := 0, 0
	for seed := 0; seed < 1000 && (at == 0 || over == 0); seed++ {
		k, e := Needed(m, seed)
		switch neededByDocument(m, seed, MaxTrial+1) {
		case MaxTrial:
			at++
			if k != MaxTrial || e != api.OK {
				t.Errorf("Needed(m, %d) = %d, %v, want %d", seed, k, e, MaxTrial)
			}
		case MaxTrial + 1:
			over++
			if k != 0 || e != api.ErrNone {
				t.Errorf("Needed(m, %d) = %d, %v: it needs %d", seed, k, e, MaxTrial+1)
			}
		}
	}
	if at == 0 || over == 0 {
		t.Errorf("%d needed all, %d one more: take another file", at, over)
	}
}

// 27.2: the seeds end: behind the last one nothing comes.
func TestNeededWhereSeedsEnd(t *testing.T) {
	done, none := 0, 0
	for _, f := range files(t)[:7] {
		for back := range 30 {
			seed := api.MaxSeed - back
			want := neededByDocument(f.m, seed, back+1)
			k, e := Needed(f.m, seed)
			if want < 0 && (k != 0 || e != api.ErrNone) || want >= 0 && (k != want || e != api.OK) {
				t.Errorf("Needed(%#v, MaxSeed - %d) = %d, %v, want %d", f.m, back, k, e, want)
			}
			if want < 0 {
				none++
			} else {
				done++
			}
		}
	}
	if done < 20 || none < 20 {
		t.Errorf("%d were done, %d not: take other files", done, none)
	}
}

// bestByDocument asks all trials; those that begin above the greatest seed have no check blocks.
func bestByDocument(m api.Manifest, seed, tries int) (best, needed int) {
	needed = -1
	for i := tries - 1; i >= 0; i-- {
		if seed+i > api.MaxSeed {
			continue
		}
		k := neededByDocument(m, seed+i, min(MaxTrial, api.MaxSeed-seed-i+1))
		if k >= 0 && (needed < 0 || k <= needed) {
			best, needed = seed+i, k
		}
	}
	return best, needed
}

// 27.2: the first of the trials that need fewest.
func TestBest(t *testing.T) {
	ties, none, late := 0, 0, 0
	for _, f := range files(t) {
		for _, seed := range []int{0, 100, api.MaxSeed - 19, api.MaxSeed - 3, api.MaxSeed} {
			for _, tries := range []int{1, 2, 7, 20} {
				if manifest.All(f.m) > 70 && tries > 2 {
					continue
				}
				best, needed := bestByDocument(f.m, seed, tries)
				b, k, e := Best(f.m, seed, tries)
				if needed < 0 {
					none++
					if b != 0 || k != 0 || e != api.ErrNone {
						t.Errorf("Best(%#v, %d, %d) = %d, %d, %v: none is done", f.m, seed, tries, b, k, e)
					}
					continue
				}
				if b != best || k != needed || e != api.OK {
					t.Errorf("Best(%#v, %d, %d) = %d, %d, %v, want %d, %d", f.m, seed, tries, b, k, e, best, needed)
				}
				if best > seed {
					late++
				}
				for at := best + 1; at < min(seed+tries, api.MaxSeed+1); at++ {
					if k, e := Needed(f.m, at); e == api.OK && k == needed {
						ties++
						break
					}
				}
			}
		}
	}
	if ties < 5 || none < 5 || late < 5 {
		t.Errorf("%d ties, %d times none, %d times a later one: take other files", ties, none, late)
	}
}

// 27.3: the heads behind which no more is known; how many heads have so many blocks.
func TestRedundantAndDegrees(t *testing.T) {
	some := 0
	for _, f := range files(t) {
		for _, seed := range seeds() {
			for _, count := range []int{0, 1, 25, 120} {
				var redundant []int
				degrees := make([]int, f.m.Code.F)
				known := knownByDocument(f.m, seed, count)
				for k := range count {
					if len(known[k]) == len(known[k+1]) {
						redundant = append(redundant, k)
					}
					l, _ := inner.Index(f.m, api.Head{Seed: seed + k})
					degrees[len(l)-1]++
				}
				if l, e := Redundant(f.m, seed, count); e != api.OK || !slices.Equal(l, redundant) {
					t.Errorf("Redundant(%#v, %d, %d) = %v, %v, want %v", f.m, seed, count, l, e, redundant)
				}
				if l, e := Degrees(f.m, seed, count); e != api.OK || !slices.Equal(l, degrees) {
					t.Errorf("Degrees(%#v, %d, %d) = %v, %v, want %v", f.m, seed, count, l, e, degrees)
				}
				if len(redundant) > 0 && len(redundant) < count {
					some++
				}
			}
		}
	}
	if some < 20 {
		t.Errorf("only %d times some heads told nothing: take other files", some)
	}
}

// 27.4: a curve never falls, and ends at most at how many blocks there are; those that are known are fixed.
func TestCurvesRise(t *testing.T) {
	for _, f := range files(t) {
		all := manifest.All(f.m)
		for seed := range 10 {
			l, e := Curve(f.m, seed, MaxTrial)
			if e != api.OK || !slices.IsSorted(l) || l[MaxTrial] > all {
				t.Errorf("Curve(%#v, %d): %v, %v, of %d blocks", f.m, seed, l, e, all)
			}
			rows, _ := Rows(f.m, seed, MaxTrial)
			if fixed, _ := gauss.Fixed(all, rows); len(fixed) < l[MaxTrial] {
				t.Errorf("Curve(%#v, %d): %d are known, %d fixed", f.m, seed, l[MaxTrial], len(fixed))
			}
		}
	}
}

// verified makes blocks of rules and check blocks, as one does who can tell for each block whether it is right: as long as one lacks just one block, that is what the others add up to.
func verified(f published, seed, count int) (int, bool) {
	type sum struct {
		numbers []int
		data    string
	}
	var sums []sum
	for k, row := range rowsByDocument(f.m, seed, count) {
		data := string(make([]byte, f.m.Size))
		if p, _ := manifest.Plan(f.m); k >= p.Aux {
			data, _ = inner.Encode(f.m, api.Head{Seed: seed + k - p.Aux}, f.whole)
		}
		sums = append(sums, sum{row, data})
	}
	got := map[int]string{}
	for more := true; more; {
		more = false
		for _, s := range sums {
			b, lack := []byte(s.data), []int(nil)
			for _, i := range s.numbers {
				if got[i] == "" {
					lack = append(lack, i)
				}
				for k, x := range []byte(got[i]) {
					b[k] ^= x
				}
			}
			if len(lack) == 1 {
				got[lack[0]] = string(b)
				more = true
			}
		}
	}
	for i, s := range got {
		if s != f.whole[i] {
			return 0, false
		}
	}
	return len(got), true
}

// 27.4: who has the check blocks, and can tell each block, has just as many blocks as the curve says, and they are the right ones.
func TestCurveIsWhatIsVerified(t *testing.T) {
	for _, f := range files(t) {
		for _, seed := range []int{0, 5} {
			l, _ := Curve(f.m, seed, MaxTrial)
			for k := 0; k <= MaxTrial; k += 15 {
				if n, right := verified(f, seed, k); !right || n != l[k] {
					t.Errorf("%#v, seed %d, behind %d: %d blocks, right: %v; the curve says %d", f.m, seed, k, n, right, l[k])
				}
			}
		}
	}
}

// The example: one block, and an auxiliary one: behind the first check block of a single block both are known.
func TestFileOfOneBlock(t *testing.T) {
	m, _, _ := manifest.Publish("a", manifest.Want{Size: 1, Code: code(1, 2, 1, 4)})
	for seed := range 20 {
		first := 0
		for k := range MaxTrial {
			if l, _ := inner.Index(m, api.Head{Seed: seed + k}); len(l) == 1 {
				first = k + 1
				break
			}
		}
		if k, e := Needed(m, seed); first == 0 || k != first || e != api.OK {
			t.Errorf("Needed(m, %d) = %d, %v, want %d", seed, k, e, first)
		}
		want := append(slices.Repeat([]int{0}, first), 2, 2)
		if l, e := Curve(m, seed, first+1); e != api.OK || !slices.Equal(l, want) {
			t.Errorf("Curve(m, %d, %d) = %v, %v, want %v", seed, first+1, l, e, want)
		}
	}
}

// R3: what is answered is new memory, also row by row.
func TestAnswersStandAlone(t *testing.T) {
	m := files(t)[0].m
	l, _ := Rows(m, 3, 20)
	want := rowsByDocument(m, 3, 20)
	for k := range l {
		_ = append(l[k], -1)
		for i := range l[k] {
			l[k][i] = -1
		}
		if !slices.EqualFunc(l[k+1:], want[k+1:], slices.Equal) {
			t.Errorf("the row %d shares memory with another one", k)
		}
	}
	if again, _ := Rows(m, 3, 20); !slices.EqualFunc(again, want, slices.Equal) {
		t.Errorf("asked again: %v", again)
	}
}
