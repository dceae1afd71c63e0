package prng

import (
	"crypto/sha256"
	"encoding/binary"
	"math"
	"slices"
	"strings"
	"testing"

	"mosaic/api"
)

// many is a bound at which a third of all words are not taken: 2^32 is two times it, and nearly a third time.
const many = 1431655766

// blockByLibrary is a block by another SHA-256 and another writer of numbers.
func blockByLibrary(seed string, k int) string {
	text := append([]byte{2, byte(len(seed))}, seed...)
	text = append(text, binary.BigEndian.AppendUint64(nil, uint64(k))[1:]...)
	d := sha256.Sum256(text)
	return string(d[:])
}

// wordsByLibrary are a seed's first n words.
func wordsByLibrary(seed string, n int) []uint32 {
	var l []uint32
	for k := 0; len(l) < n; k++ {
		block := []byte(blockByLibrary(seed, k))
		for i := range 8 {
			l = append(l, binary.BigEndian.Uint32(block[4*i:]))
		}
	}
	return l[:n]
}

// chosenByDocument says what the chapter says of choosing, by what is left of 2^32.
func chosenByDocument(words []uint32, n int) (value, used int) {
	words = words[:min(len(words), 8)]
	m := uint64(1<<32) - uint64(1<<32)%uint64(n)
	for i, w := range words {
		if uint64(w) < m {
			return int(uint64(w) % uint64(n)), i + 1
		}
	}
	return int(uint64(words[len(words)-1]) % uint64(n)), len(words)
}

// pickedByDocument is what Pick picks out of words, and how many that took.
func pickedByDocument(words []uint32, n, k int) (picked []int, used int) {
	var all []int
	for i := 0; i < n; i++ {
		all = append(all, i)
	}
	for i := 0; i < k; i++ {
		v, took := chosenByDocument(words[used:], n-i)
		used += took
		all[i], all[i+v] = all[i+v], all[i]
	}
	return all[:k], used
}

func seeds() []string {
	return []string{"", "a", "seed", "\x00", "\x00\x00", "inner\xff\xfe", strings.Repeat("s", 44), strings.Repeat("t", 46), strings.Repeat("z", api.MaxSeedText)}
}

// wrongBounds are numbers below which nothing can be chosen.
func wrongBounds() []int {
	return []int{0, -1, -10, 1 << 31, 1<<31 + 1, 1 << 32, 1 << 33, math.MinInt, math.MaxInt, math.MinInt32}
}

// 4.1: the blocks.
func TestBlock(t *testing.T) {
	for _, seed := range seeds() {
		for _, k := range []int{0, 1, 2, 3, 255, 256, 1 << 32, 1<<56 - 1} {
			if got, want := Block(seed, k), blockByLibrary(seed, k); got != want {
				t.Errorf("Block(%q, %d) = %x, want %x", seed, k, got, want)
			}
		}
	}
}

// 4.1: which seeds and numbers have no block.
func TestBlockOfNothing(t *testing.T) {
	long := strings.Repeat("l", api.MaxSeedText+1)
	for _, k := range []int{0, 1, -1} {
		for _, seed := range []string{long, strings.Repeat("l", 256), strings.Repeat("l", 70000)} {
			if got := Block(seed, k); got != "" {
				t.Errorf("Block of %d bytes, %d: %x", len(seed), k, got)
			}
		}
	}
	for _, k := range []int{-1, -2, math.MinInt, 1 << 56, 1<<56 + 1, 1 << 57, math.MaxInt} {
		for _, seed := range seeds() {
			if got := Block(seed, k); got != "" {
				t.Errorf("Block(%q, %d) = %x", seed, k, got)
			}
		}
	}
}

// 4.1: words come block by block, and are counted.
func TestWord(t *testing.T) {
	for _, seed := range seeds() {
		g := New(seed)
		if g == nil || g.Used() != 0 {
			t.Fatalf("New(%q): %v", seed, g)
		}
		for i, want := range wordsByLibrary(seed, 70) {
			if got := g.Word(); got != want || g.Used() != i+1 {
				t.Errorf("the word %d of %q: %d, %d used, want %d", i, seed, got, g.Used(), want)
			}
		}
	}
	for _, n := range []int{api.MaxSeedText + 1, 1000, 1 << 20} {
		if New(strings.Repeat("l", n)) != nil {
			t.Errorf("New of %d bytes", n)
		}
	}
}

// 4.2: which word is taken.
func TestChoose(t *testing.T) {
	top := uint32(math.MaxUint32)
	for _, x := range []struct {
		words       []uint32
		n           int
		value, used int
	}{
		{[]uint32{top, 7}, 10, 7, 2},
		{[]uint32{4294967290, 7}, 10, 7, 2},
		{[]uint32{4294967289, 7}, 10, 9, 1},
		{[]uint32{0}, 1, 0, 1},
		{[]uint32{top}, 1, 0, 1},
		{[]uint32{top, 3}, 2, 1, 1},
		{[]uint32{top, 3}, 256, 255, 1},
		{[]uint32{top, 3}, 1 << 30, 1<<30 - 1, 1},
		{[]uint32{top, 3}, 1<<31 - 1, 3, 2},
		{[]uint32{top - 1, 3}, 1<<31 - 1, 3, 2},
		{[]uint32{top - 2, 3}, 1<<31 - 1, 1<<31 - 2, 1},
		{[]uint32{2*many - 1, 3}, many, many - 1, 1},
		{[]uint32{2 * many, 3}, many, 3, 2},
		{[]uint32{top}, 10, 5, 1},
		{[]uint32{top, top - 1}, 10, 4, 2},
		{[]uint32{top, top, top, top, top, top, top, 8}, 10, 8, 8},
		{[]uint32{top, top, top, top, top, top, top, top - 2}, 10, 3, 8},
		{[]uint32{top, top, top, top, top, top, top, top - 2, 1}, 10, 3, 8},
		{[]uint32{top, top, top, top, top, top, top, top, top}, 10, 5, 8},
		{[]uint32{top, top, top, top, top, top, 1, top, top}, 10, 1, 7},
	} {
		kept := slices.Clone(x.words)
		if value, used := Choose(x.words, x.n); value != x.value || used != x.used {
			t.Errorf("Choose(%d, %d) = %d, %d, want %d, %d", x.words, x.n, value, used, x.value, x.used)
		}
		if !slices.Equal(kept, x.words) {
			t.Errorf("the words are changed: %d", x.words)
		}
	}
	if Tries != 8 {
		t.Errorf("Tries = %d", Tries)
	}
}

// 4.2: bounds that may not be, and no words.
func TestChooseNothing(t *testing.T) {
	for _, n := range wrongBounds() {
		for _, words := range [][]uint32{nil, {}, {5}, {5, 6, 7}} {
			if value, used := Choose(words, n); value != 0 || used != 0 {
				t.Errorf("Choose(%d, %d) = %d, %d", words, n, value, used)
			}
		}
	}
	for _, n := range []int{1, 10, 1<<31 - 1} {
		for _, words := range [][]uint32{nil, {}} {
			if value, used := Choose(words, n); value != 0 || used != 0 {
				t.Errorf("Choose(%d, %d) = %d, %d", words, n, value, used)
			}
		}
	}
}

// 4.2: Below chooses out of the next words, and draws no more than that took; nothing, if the number may not be.
func TestBelow(t *testing.T) {
	const long = 60000
	words := wordsByLibrary("below", long)
	g := New("below")
	tooks := [Tries + 1]int{}
	bounds := []int{many, 1, many, 10, many, 1<<31 - 1, many, 1<<30 + 1, 4096}
	for i := 0; g.Used() < long-Tries; i++ {
		n, used := bounds[i%len(bounds)], g.Used()
		value, took := chosenByDocument(words[used:], n)
		if got := g.Below(n); got != value || g.Used() != used+took {
			t.Fatalf("Below(%d) behind %d words: %d, %d used, want %d, %d", n, used, got, g.Used(), value, used+took)
		}
		if v, u := Choose(words[used:], n); v != value || u != took {
			t.Fatalf("Choose below %d behind %d words: %d, %d", n, used, v, u)
		}
		wrong := wrongBounds()[i%len(wrongBounds())]
		if got := g.Below(wrong); got != 0 || g.Used() != used+took {
			t.Fatalf("Below(%d) = %d, %d used", wrong, got, g.Used())
		}
		tooks[took]++
	}
	for took := 1; took <= Tries; took++ {
		if tooks[took] == 0 {
			t.Errorf("no choice took %d words: these are too few", took)
		}
	}
}

// 4.2: where all tries fail, the last word is taken.
func TestBelowTakesTheLast(t *testing.T) {
	words := wordsByLibrary("below", 60000)
	at := 0
	for slices.Min(words[at:at+Tries]) < 2*many {
		at++
	}
	g := New("below")
	for range at {
		g.Word()
	}
	if got, want := g.Below(many), int(words[at+Tries-1])-2*many; got != want || g.Used() != at+Tries {
		t.Errorf("Below = %d, %d used, want %d, %d", got, g.Used(), want, at+Tries)
	}
}

// 4.3: what is picked, in the order in which it comes, one picking behind the other.
func TestPick(t *testing.T) {
	for _, seed := range []string{"", "pick", strings.Repeat("p", api.MaxSeedText)} {
		g, words := New(seed), wordsByLibrary(seed, 20000)
		for _, x := range [][2]int{{1, 1}, {0, 0}, {1, 0}, {5, 0}, {2, 1}, {2, 2}, {3, 2}, {10, 10}, {10, 3}, {7, 1}, {100, 64}, {160, 160}, {4096, 0}, {4096, 1}, {4096, 100}, {4095, 4095}, {4096, 4096}, {4096, 4095}} {
			used := g.Used()
			want, took := pickedByDocument(words[used:], x[0], x[1])
			if got := g.Pick(x[0], x[1]); !slices.Equal(got, want) || g.Used() != used+took {
				t.Errorf("Pick(%d, %d) = %d, %d used, want %d, %d", x[0], x[1], got, g.Used(), want, used+took)
			}
		}
	}
}

// 4.3: also of a single number one is drawn.
func TestPickOne(t *testing.T) {
	g := New("one")
	if got := g.Pick(1, 1); !slices.Equal(got, []int{0}) || g.Used() != 1 {
		t.Errorf("Pick(1, 1) = %d, %d used", got, g.Used())
	}
}

// 4.3: what can't be picked: nothing is drawn.
func TestPickNothing(t *testing.T) {
	g := New("seed")
	g.Word()
	for _, x := range [][2]int{
		{-1, 0}, {-1, -1}, {0, 1}, {0, -1}, {1, 2}, {1, -1}, {3, 4}, {4096, 4097}, {4097, 0}, {4097, 1}, {4097, 4097}, {5000, 5},
		{math.MinInt, 0}, {math.MinInt, math.MinInt}, {math.MaxInt, 0}, {math.MaxInt, math.MaxInt}, {10, math.MinInt}, {10, math.MaxInt},
	} {
		if got := g.Pick(x[0], x[1]); len(got) != 0 || g.Used() != 1 {
			t.Errorf("Pick(%d, %d) = %d, %d used", x[0], x[1], got, g.Used())
		}
	}
	if got, want := g.Word(), wordsByLibrary("seed", 2)[1]; got != want {
		t.Errorf("the word behind it: %d, want %d", got, want)
	}
}

// 4.3: a nil generator.
func TestNil(t *testing.T) {
	var g *Gen
	for _, n := range []int{0, 1, 10, -1, math.MaxInt, math.MinInt} {
		if g.Word() != 0 || g.Used() != 0 || g.Below(n) != 0 || len(g.Pick(n, 1)) != 0 || len(g.Pick(10, n)) != 0 {
			t.Errorf("a nil generator draws, with %d", n)
		}
	}
}

// R3: what is picked is nobody else's, and there is no room behind it.
func TestPickedStandsAlone(t *testing.T) {
	g, h := New("alone"), New("alone")
	a := g.Pick(20, 5)
	if cap(a) != 5 {
		t.Errorf("there is room for %d", cap(a))
	}
	kept := slices.Clone(a)
	b := g.Pick(20, 5)
	for i := range b {
		b[i] = -1
	}
	if !slices.Equal(a, kept) || !slices.Equal(h.Pick(20, 5), kept) {
		t.Errorf("two answers share memory")
	}
}

// 4.4: the same seed draws the same, whatever another generator draws between.
func TestSameSeedDrawsTheSame(t *testing.T) {
	for _, seed := range seeds() {
		g, h, other := New(seed), New(seed), New("other")
		for i := 1; i < 60; i++ {
			a, b, c := g.Word(), g.Below(i*i), g.Pick(i, i/2)
			other.Pick(i, i)
			if a != h.Word() || b != h.Below(i*i) || !slices.Equal(c, h.Pick(i, i/2)) || g.Used() != h.Used() {
				t.Errorf("%q draws otherwise", seed)
			}
		}
	}
}

// 4.4: what is chosen is below the bound, what is picked are unlike numbers below it.
func TestWhatIsDrawnIsInBounds(t *testing.T) {
	g := New("bounds")
	for n := 1; n <= 300; n++ {
		if v := g.Below(n); v < 0 || v >= n {
			t.Errorf("Below(%d) = %d", n, v)
		}
		l := slices.Sorted(slices.Values(g.Pick(n, n/2+1)))
		if len(slices.Compact(slices.Clone(l))) != n/2+1 || l[0] < 0 || l[len(l)-1] >= n {
			t.Errorf("Pick(%d, %d) = %d", n, n/2+1, l)
		}
	}
	for _, n := range []int{many, 1<<31 - 1, 1 << 30} {
		for range 100 {
			if v := g.Below(n); v < 0 || v >= n {
				t.Errorf("Below(%d) = %d", n, v)
			}
		}
	}
}
