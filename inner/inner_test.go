package inner

import (
	"crypto/sha256"
	"encoding/binary"
	"fmt"
	"math"
	"math/big"
	"math/rand"
	"slices"
	"strings"
	"testing"

	"mosaic/api"
	"mosaic/manifest"
)

func code(n, d, q, f int) api.Code {
	return api.Code{Eps: api.Ratio{N: n, D: d}, Q: q, F: f}
}

// published is a manifest and its whole, of a file of all kinds of bytes.
type published struct {
	m     api.Manifest
	whole []string
}

// files are published ones of all kinds: of few blocks and of the most, of each kind of code, of seeds at the edges, with sets that end within a byte and with one.
func files(t *testing.T) []published {
	r := rand.New(rand.NewSource(1))
	var l []published
	for _, x := range []struct {
		long, size, seed int
		c                api.Code
	}{
		{12, 3, 9, code(1, 2, 2, 4)}, {5, 2, 0, code(1, 2, 1, 4)}, {1, 1, 0, code(1, 2, 1, 4)}, {1, 64, 7, code(1, 2, 1, 2)}, {20, 3, 1, code(1, 2, 1, 2)}, {2, 1, 3, code(1, 1, 8, 64)},
		{96, 1, api.MaxSeed, code(1, 1, 8, 64)}, {4096, 64, 1 << 55, code(1, 64, 3, 64)}, {4096, 43, 0x01020304050607, code(999, 1000, 3, 2)}, {300, 20, 255, code(16, 999, 3, 63)}, {14, 1, 256, code(1, 4, 1, 8)},
	} {
		file := make([]byte, x.long)
		r.Read(file)
		m, w, e := manifest.Publish(string(file), manifest.Want{Size: x.size, Seed: x.seed, Code: x.c})
		if e != api.OK {
			t.Fatalf("Publish of %v: %v", x, e)
		}
		l = append(l, published{m, w})
	}
	return l
}

// wrongManifests are some that may not be, in one part each.
func wrongManifests(t *testing.T) []api.Manifest {
	var l []api.Manifest
	for _, change := range []func(m *api.Manifest){
		func(m *api.Manifest) { *m = api.Manifest{} },
		func(m *api.Manifest) { m.Long = 0 }, func(m *api.Manifest) { m.Long = 289 }, func(m *api.Manifest) { m.Long = math.MaxInt },
		func(m *api.Manifest) { m.Size = 0 }, func(m *api.Manifest) { m.Size = 65 }, func(m *api.Manifest) { m.Size = math.MinInt },
		func(m *api.Manifest) { m.Seed = -1 }, func(m *api.Manifest) { m.Seed = api.MaxSeed + 1 },
		func(m *api.Manifest) { m.Code.Eps = api.Ratio{} }, func(m *api.Manifest) { m.Code.Eps.N = 2 }, func(m *api.Manifest) { m.Code.Q = 9 }, func(m *api.Manifest) { m.Code.F = 1 }, func(m *api.Manifest) { m.Code.F = 65 },
		func(m *api.Manifest) { m.Root = "" }, func(m *api.Manifest) { m.Root += "x" }, func(m *api.Manifest) { m.Root = m.Root[1:] },
	} {
		m := files(t)[0].m
		change(&m)
		l = append(l, m)
	}
	return l
}

// set is the bytes of a set.
func set(n int, numbers ...int) string {
	b := make([]byte, (n+7)/8)
	for _, i := range numbers {
		b[i/8] |= 1 << (i % 8)
	}
	return string(b)
}

// upTo are the numbers below n.
func upTo(n int) []int {
	l := make([]int, n)
	for i := range l {
		l[i] = i
	}
	return l
}

// seeds are those at the edges of the bytes, and some more.
func seeds() []int {
	l := []int{255, 256, 1<<16 - 1, 1 << 16, 1 << 32, 1<<48 + 5, 0x07060504030201, api.MaxSeed - 1, api.MaxSeed}
	return append(l, upTo(40)...)
}

// drawer draws a seed text's words, one by one.
type drawer struct {
	seed string
	used int
}

func (g *drawer) word() uint32 {
	text := append([]byte{2, byte(len(g.seed))}, g.seed...)
	text = append(text, binary.BigEndian.AppendUint64(nil, uint64(g.used/8))[1:]...)
	sum := sha256.Sum256(text)
	g.used++
	return binary.BigEndian.Uint32(sum[(g.used-1)%8*4:])
}

// below chooses below n: of the first eight words the first that is below the greatest multiple of n, or else the last.
func (g *drawer) below(n int) int {
	for tries := 1; ; tries++ {
		if word := int(g.word()); word < 1<<32-(1<<32)%n || tries == 8 {
			return word % n
		}
	}
}

// degreeByDocument adds up the chances of the degrees, until 2^32 times that is, cut off, above the word.
func degreeByDocument(c api.Code, word uint32) int {
	p := big.NewRat(int64((c.F+1)*c.Eps.D), int64(c.F*(c.Eps.D+c.Eps.N)))
	all := new(big.Rat).Sub(big.NewRat(1, 1), p)
	for k := 1; ; k++ {
		if k > 1 {
			share := big.NewRat(int64(c.F), int64((c.F-1)*k*(k-1)))
			all.Add(all, share.Mul(share, p))
		}
		x := new(big.Rat).Mul(all, big.NewRat(1<<32, 1))
		if new(big.Int).Div(x.Num(), x.Denom()).Int64() > int64(word) {
			return k
		}
	}
}

// indexByDocument is the blocks that a head's seed picks of some numbers.
func indexByDocument(m api.Manifest, seed int, from []int) []int {
	bytes := func(n int) string { return string(binary.BigEndian.AppendUint64(nil, uint64(n))[1:]) }
	g := &drawer{seed: "inner" + bytes(m.Seed) + bytes(seed)}
	d := min(degreeByDocument(m.Code, g.word()), len(from))
	left := slices.Clone(from)
	for i := range d {
		j := i + g.below(len(left)-i)
		left[i], left[j] = left[j], left[i]
	}
	l := left[:d]
	slices.Sort(l)
	return l
}

// sumByDocument adds up blocks, byte by byte.
func sumByDocument(whole []string, numbers []int) string {
	sum := make([]byte, len(whole[0]))
	for _, i := range numbers {
		for k := range sum {
			sum[k] ^= whole[i][k]
		}
	}
	return string(sum)
}

// someHeads are heads that may be, of all modes.
func someHeads(all int) []api.Head {
	r := rand.New(rand.NewSource(2))
	var l []api.Head
	for _, seed := range seeds() {
		l = append(l, api.Head{Mode: api.ModeAll, Seed: seed}, api.Head{Mode: api.ModeSome, Seed: seed, Have: set(all, r.Perm(all)[:1+r.Intn(all)]...)}, api.Head{Mode: api.ModeSome, Seed: seed, Have: set(all, r.Intn(all))})
		if seed < all {
			l = append(l, api.Head{Mode: api.ModeOne, Seed: seed})
		}
	}
	return append(l, api.Head{Mode: api.ModeOne, Seed: all - 1}, api.Head{Mode: api.ModeSome, Have: set(all, all-1)}, api.Head{Mode: api.ModeSome, Have: set(all, 0)}, api.Head{Mode: api.ModeSome, Have: set(all, upTo(all)...)})
}

// wrongHeads are heads that may not be.
func wrongHeads(all int) []api.Head {
	full := set(all, upTo(all)...)
	l := []api.Head{
		{Mode: api.ModeSome}, {Mode: api.ModeSome, Have: set(all)}, {Mode: api.ModeSome, Have: full + "\x00"}, {Mode: api.ModeSome, Have: "\x00" + full}, {Mode: api.ModeSome, Have: full + full}, {Mode: api.ModeSome, Have: full[1:]}, {Mode: api.ModeSome, Have: strings.Repeat("\x01", 21)}, {Mode: api.ModeSome, Have: strings.Repeat("\x01", 70000)},
		{Mode: api.ModeOne, Seed: all}, {Mode: api.ModeOne, Seed: all + 1}, {Mode: api.ModeOne, Seed: 160}, {Mode: api.ModeOne, Seed: 1 << 32}, {Mode: api.ModeOne, Seed: api.MaxSeed},
	}
	for bit := all; bit < 8*len(full); bit++ { // a bit behind the last block
		b := []byte(full)
		b[bit/8] |= 1 << (bit % 8)
		l = append(l, api.Head{Mode: api.ModeSome, Have: string(b)}, api.Head{Mode: api.ModeSome, Have: set(8*len(full), bit)})
	}
	for _, mode := range []int{api.ModeAll, api.ModeOne} {
		for _, have := range []string{"\x00", "\x01", set(all), full, strings.Repeat("x", 70000)} {
			l = append(l, api.Head{Mode: mode, Have: have})
		}
	}
	for _, seed := range []int{-1, api.MaxSeed + 1, 1 << 57, math.MaxInt, math.MinInt} {
		l = append(l, api.Head{Mode: api.ModeAll, Seed: seed}, api.Head{Mode: api.ModeSome, Seed: seed, Have: full}, api.Head{Mode: api.ModeOne, Seed: seed})
	}
	for _, mode := range []int{3, -1, 4, 256, 257, 258, 1 << 32, 1<<32 + 2, math.MaxInt, math.MinInt} {
		l = append(l, api.Head{Mode: mode}, api.Head{Mode: mode, Have: full})
	}
	return l
}

// tell is a head whose set may be long.
func tell(h api.Head) string {
	return fmt.Sprintf("{%d %d %.80q}", h.Mode, h.Seed, h.Have)
}

// 11.1: which heads may be; a manifest that may not be is told first.
func TestCheck(t *testing.T) {
	for _, x := range files(t) {
		for _, h := range someHeads(len(x.whole)) {
			if e := Check(x.m, h); e != api.OK {
				t.Errorf("Check(%v, %v) = %v", x.m, h, e)
			}
		}
		for _, h := range wrongHeads(len(x.whole)) {
			if e := Check(x.m, h); e != api.ErrForm {
				t.Errorf("Check(%v, %s) = %v", x.m, tell(h), e)
			}
			if l, e := Index(x.m, h); e != api.ErrForm || l != nil {
				t.Errorf("Index(%v, %s) = %v, %v", x.m, tell(h), l, e)
			}
		}
	}
	all := len(files(t)[0].whole)
	for _, m := range wrongManifests(t) {
		for _, h := range slices.Concat(someHeads(all)[:8], wrongHeads(all)) {
			if e := Check(m, h); e != api.ErrArg {
				t.Errorf("Check(%v, %s) = %v", m, tell(h), e)
			}
			if l, e := Index(m, h); e != api.ErrArg || l != nil {
				t.Errorf("Index(%v, %s) = %v, %v", m, tell(h), l, e)
			}
		}
	}
}

// 11.1: the blocks of heads of all modes.
func TestIndex(t *testing.T) {
	for _, x := range files(t) {
		for _, h := range someHeads(len(x.whole)) {
			if l, e := Index(x.m, h); e != api.OK || !slices.Equal(l, wantIndex(x, h)) {
				t.Errorf("Index(%v, %v) = %v, %v, want %v", x.m, h, l, e, wantIndex(x, h))
			}
		}
	}
}

// wantIndex is the blocks of a head, by the document.
func wantIndex(x published, h api.Head) []int {
	var from []int
	for i := range x.whole {
		if h.Mode == api.ModeAll || h.Mode == api.ModeSome && h.Have[i/8]>>(i%8)&1 == 1 {
			from = append(from, i)
		}
	}
	if h.Mode == api.ModeOne {
		return []int{h.Seed}
	}
	return indexByDocument(x.m, h.Seed, from)
}

// 11.1: the examples.
func TestIndexExamples(t *testing.T) {
	x := files(t)[0]
	if l, e := Index(x.m, api.Head{Mode: api.ModeOne, Seed: 2}); e != api.OK || !slices.Equal(l, []int{2}) {
		t.Errorf("ModeOne 2: %v, %v", l, e)
	}
	for i := range x.whole {
		for _, seed := range seeds() {
			if l, e := Index(x.m, api.Head{Mode: api.ModeSome, Seed: seed, Have: set(len(x.whole), i)}); e != api.OK || !slices.Equal(l, []int{i}) {
				t.Errorf("the set of %d alone, the seed %d: %v, %v", i, seed, l, e)
			}
		}
	}
}

// 11.1: some that were reckoned once and for all: who publishes and who receives need not run the same program.
func TestIndexStaysTheSame(t *testing.T) {
	m := files(t)[0].m // of 7 blocks, the seed 9
	for _, x := range []struct {
		seed      int
		all, some []int
	}{
		{0, []int{0, 4, 5}, []int{1, 3, 6}}, {1, []int{3, 5}, []int{3, 6}}, {2, []int{3, 4}, []int{1, 6}}, {3, []int{1, 2, 5, 6}, []int{1, 3, 6}},
		{4, []int{0, 2}, []int{1, 6}}, {5, []int{2, 5}, []int{1, 3}}, {api.MaxSeed, []int{1, 6}, []int{1, 6}},
	} {
		if l, e := Index(m, api.Head{Seed: x.seed}); e != api.OK || !slices.Equal(l, x.all) {
			t.Errorf("the seed %d of all: %v, %v, want %v", x.seed, l, e, x.all)
		}
		if l, e := Index(m, api.Head{Mode: api.ModeSome, Seed: x.seed, Have: set(7, 1, 3, 6)}); e != api.OK || !slices.Equal(l, x.some) {
			t.Errorf("the seed %d of 1, 3, 6: %v, %v, want %v", x.seed, l, e, x.some)
		}
	}
}

// 11.1: what is picked hangs on both seeds, and on the code; not on the file's bytes.
func TestIndexHangsOnTheSeeds(t *testing.T) {
	m := files(t)[6].m
	of := func(m api.Manifest, seed int) (all [][]int) {
		for k := range 10 {
			l, _ := Index(m, api.Head{Seed: seed + k})
			all = append(all, l)
		}
		return all
	}
	first := of(m, 0)
	alike := func(n api.Manifest, seed int) bool { return slices.EqualFunc(first, of(n, seed), slices.Equal) }
	other := m
	other.Root = strings.Repeat("\x00", 32)
	if !alike(other, 0) {
		t.Errorf("another root picks other blocks")
	}
	other = m
	other.Seed--
	if alike(other, 0) || alike(m, 1) || alike(m, 256) || alike(m, 1<<48) {
		t.Errorf("other seeds pick the same blocks")
	}
	other = m
	other.Code.F = 3
	if alike(other, 0) {
		t.Errorf("another code picks the same blocks")
	}
}

// 11.2: check blocks are the sums of their heads' blocks, whatever else is lacking; without one of these there is none.
func TestEncode(t *testing.T) {
	for _, x := range files(t) {
		kept := slices.Clone(x.whole)
		for _, h := range someHeads(len(x.whole)) {
			l := wantIndex(x, h)
			want := sumByDocument(x.whole, l)
			few := make([]string, len(x.whole))
			for _, i := range l {
				few[i] = x.whole[i]
			}
			for _, whole := range [][]string{x.whole, few} {
				if s, e := Encode(x.m, h, whole); e != api.OK || s != want || !Right(x.m, h, whole, want) {
					t.Errorf("Encode(%v, %v) = %x, %v, want %x", x.m, h, s, e, want)
				}
			}
			for _, i := range []int{l[0], l[len(l)/2], l[len(l)-1]} {
				holes := slices.Clone(x.whole)
				holes[i] = ""
				if s, e := Encode(x.m, h, holes); e != api.ErrNone || s != "" || Right(x.m, h, holes, want) || Right(x.m, h, holes, "") {
					t.Errorf("Encode(%v, %v) without %d: %x, %v", x.m, h, i, s, e)
				}
			}
			if s, e := Encode(x.m, h, make([]string, len(x.whole))); e != api.ErrNone || s != "" {
				t.Errorf("Encode(%v, %v) of no blocks: %x, %v", x.m, h, s, e)
			}
		}
		if !slices.Equal(kept, x.whole) {
			t.Errorf("the whole of %v is changed", x.m)
		}
	}
}

// 11.2: wholes of too few entries, of too many, of other sizes, also where the head has nothing to do with that; they are told ahead of what is lacking, and behind the head.
func TestEncodeErrors(t *testing.T) {
	x := files(t)[0]
	all := len(x.whole)
	head := api.Head{Mode: api.ModeOne, Seed: 2}
	wrong := [][]string{nil, {}, x.whole[1:], x.whole[:all-1], append(slices.Clone(x.whole), x.whole[0]), append(slices.Clone(x.whole), ""), make([]string, all-1), make([]string, all+1), {strings.Join(x.whole, "")}}
	for i := range all {
		for _, s := range []string{"x", "xx", "xxxx", strings.Repeat("x", 65), strings.Repeat("x", 70000)} {
			full, few := slices.Clone(x.whole), make([]string, all)
			full[i], few[i] = s, s
			wrong = append(wrong, full, few)
		}
	}
	for _, whole := range wrong {
		if s, e := Encode(x.m, head, whole); e != api.ErrArg || s != "" || Right(x.m, head, whole, x.whole[2]) || Right(x.m, head, whole, "") {
			t.Errorf("Encode of %.80q: %x, %v", whole, s, e)
		}
	}
	for _, h := range wrongHeads(all) {
		for _, whole := range [][]string{x.whole, nil, make([]string, all)} {
			if s, e := Encode(x.m, h, whole); e != api.ErrForm || s != "" || Right(x.m, h, whole, "") {
				t.Errorf("Encode of the head %s: %x, %v", tell(h), s, e)
			}
		}
	}
	for _, m := range wrongManifests(t) {
		for _, h := range []api.Head{head, {Mode: 3}} {
			for _, whole := range [][]string{x.whole, nil} {
				if s, e := Encode(m, h, whole); e != api.ErrArg || s != "" || Right(m, h, whole, "") {
					t.Errorf("Encode of the manifest %v: %x, %v", m, s, e)
				}
			}
		}
	}
}

// 11.2: no other bytes are right.
func TestRightOfOtherBytes(t *testing.T) {
	x := files(t)[0]
	for _, h := range someHeads(len(x.whole)) {
		data := sumByDocument(x.whole, wantIndex(x, h))
		wrong := []string{"", data[1:], data + "\x00", "\x00" + data, data + data}
		for bit := range 8 * len(data) {
			b := []byte(data)
			b[bit/8] ^= 1 << (bit % 8)
			wrong = append(wrong, string(b))
		}
		for _, s := range wrong {
			if Right(x.m, h, x.whole, s) {
				t.Errorf("%v: %x is right, as %x is", h, s, data)
			}
		}
		if !Right(x.m, h, x.whole, data) {
			t.Errorf("%v: %x is not right", h, data)
		}
	}
}

// 11.3: a head has from one to F blocks, unlike ones, of its set; all degrees come.
func TestHowManyBlocks(t *testing.T) {
	x := files(t)[0]
	all := len(x.whole)
	var seen [5]int
	for seed := range 300 {
		l, _ := Index(x.m, api.Head{Seed: seed})
		if len(l) < 1 || len(l) > 4 || l[0] < 0 || l[len(l)-1] >= all || !slices.IsSorted(l) || len(slices.Compact(slices.Clone(l))) != len(l) {
			t.Fatalf("the seed %d: %v", seed, l)
		}
		seen[len(l)]++
		some := []int{1, 3, all - 1}
		k, _ := Index(x.m, api.Head{Mode: api.ModeSome, Seed: seed, Have: set(all, some...)})
		if len(k) != min(len(l), 3) || slices.ContainsFunc(k, func(i int) bool { return !slices.Contains(some, i) }) || len(slices.Compact(slices.Clone(k))) != len(k) {
			t.Errorf("the seed %d of a set: %v, and of all: %v", seed, k, l)
		}
	}
	if slices.Contains(seen[1:], 0) {
		t.Errorf("degrees: %v", seen)
	}
}

// 11.3: the set of all blocks picks what ModeAll picks; what ModeOne heads tell is the whole.
func TestAllAndOne(t *testing.T) {
	for _, x := range files(t) {
		all := len(x.whole)
		for _, seed := range seeds() {
			l, _ := Index(x.m, api.Head{Seed: seed})
			k, e := Index(x.m, api.Head{Mode: api.ModeSome, Seed: seed, Have: set(all, upTo(all)...)})
			if e != api.OK || !slices.Equal(l, k) {
				t.Errorf("%v, the seed %d: %v of all, %v of the set of all", x.m, seed, l, k)
			}
		}
		var told []string
		for i := range all {
			s, _ := Encode(x.m, api.Head{Mode: api.ModeOne, Seed: i}, x.whole)
			told = append(told, s)
		}
		if !slices.Equal(told, x.whole) || !manifest.Owns(x.m, told) {
			t.Errorf("%v: what ModeOne heads tell is not the whole", x.m)
		}
	}
}

// R3: no two answers share memory.
func TestIndexStandsAlone(t *testing.T) {
	x := files(t)[6]
	for _, h := range someHeads(len(x.whole)) {
		l, _ := Index(x.m, h)
		for i := range l {
			l[i] = -1
		}
		if again, _ := Index(x.m, h); !slices.Equal(again, wantIndex(x, h)) {
			t.Errorf("Index(%v) afterwards: %v", h, again)
		}
	}
}
