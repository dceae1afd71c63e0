package decoder

import (
	"math"
	"slices"
	"strings"
	"testing"

	"mosaic/api"
	"mosaic/bits"
	"mosaic/block"
	"mosaic/inner"
	"mosaic/manifest"
	"mosaic/merkle"
	"mosaic/outer"
)

// half is the code of most examples.
func half() api.Code {
	return api.Code{Eps: api.Ratio{N: 1, D: 2}, Q: 1, F: 4}
}

// setOf is the set of numbers, each of which is there once.
func setOf(all int, l []int) string {
	s, _ := bits.Of(all, l)
	return s
}

func one(i int) api.Head {
	return api.Head{Mode: api.ModeOne, Seed: i}
}

// pair is a head that tells of just these blocks.
func pair(t *testing.T, m api.Manifest, numbers ...int) api.Head {
	for seed := range 1000 {
		h := api.Head{Mode: api.ModeSome, Seed: seed, Have: setOf(manifest.All(m), numbers)}
		if l, _ := inner.Index(m, h); len(l) == len(numbers) {
			return h
		}
	}
	t.Fatalf("there is no head of %v", numbers)
	return api.Head{}
}

// bench is a file of 12 message blocks, whose only rule has all of them, and a decoder of it.
type bench struct {
	t *testing.T
	m api.Manifest
	w []string
	d *Decoder
}

func newBench(t *testing.T) bench {
	m, w, e := manifest.Publish("hello, world, here we go", manifest.Want{Size: 2, Seed: 3, Code: api.Code{Eps: api.Ratio{N: 1, D: 20}, Q: 1, F: 20}})
	if e != api.OK || len(w) != 13 {
		t.Fatalf("%d blocks, %v", len(w), e)
	}
	return bench{t, m, w, New(m, 50)}
}

func (b bench) learn(l ...int) {
	b.t.Helper()
	for _, i := range l {
		path, _ := merkle.Path(b.w, i)
		if e := b.d.Learn(i, merkle.Leaf(b.w[i]), path); e != api.OK {
			b.t.Errorf("Learn %d: %v", i, e)
		}
	}
}

// add has a peer send what is true of blocks; lie something else.
func (b bench) add(peer int, numbers ...int) {
	b.t.Helper()
	h := pair(b.t, b.m, numbers...)
	data, _ := inner.Encode(b.m, h, b.w)
	if e := b.d.Add(peer, h, data); e != api.OK {
		b.t.Errorf("Add of %v: %v", numbers, e)
	}
}

func (b bench) lie(peer int, numbers ...int) {
	b.t.Helper()
	h := pair(b.t, b.m, numbers...)
	data, _ := inner.Encode(b.m, h, b.w)
	data, _ = block.Xor(data, "\x01\x01")
	if e := b.d.Add(peer, h, data); e != api.OK {
		b.t.Errorf("Add of a lie about %v: %v", numbers, e)
	}
}

// is asks which blocks are verified, which are guessed, and how many equations are kept.
func (b bench) is(what string, right, guesses []int, kept int) {
	b.t.Helper()
	if b.d.Have() != setOf(len(b.w), right) || !slices.Equal(b.d.Guesses(), guesses) || !slices.Equal(b.d.Asks(), guesses) || b.d.Kept() != kept {
		b.t.Errorf("%s: %x is verified, %v guessed, %v asked for, %d kept, want %v, %v, %d", what, b.d.Have(), b.d.Guesses(), b.d.Asks(), b.d.Kept(), right, guesses, kept)
	}
	for i, s := range b.d.Whole() {
		if want := slices.Contains(right, i); want != (s == b.w[i]) || !want && s != "" || s != b.d.Block(i) {
			b.t.Errorf("%s: block %d: %q", what, i, s)
		}
	}
}

// 15.1, 15.2: the example: a file of one block, of two digests and one equation.
func TestExample(t *testing.T) {
	m, w, _ := manifest.Publish("a", manifest.Want{Size: 1, Code: half()})
	d := New(m, 1)
	b := bench{t, m, w, d}
	b.learn(0, 1)
	b.is("at first", nil, nil, 0)
	b.add(1, 0)
	b.is("with the block", []int{0, 1}, nil, 0)
	if s, e := d.File(); s != "a" || e != api.OK || !d.Done() || d.Broken() {
		t.Errorf("File: %q, %v", s, e)
	}
}

// 15.1: of which manifests and rooms there is a decoder, and what it has at first.
func TestNew(t *testing.T) {
	m, w, _ := manifest.Publish("hello", manifest.Want{Size: 2, Code: half()})
	for _, room := range []int{1, 400} {
		d := New(m, room)
		if d == nil || d.Manifest() != m || d.Kept() != 0 || d.Done() || d.Broken() || d.Have() != bits.Empty(len(w)) || !slices.Equal(d.Whole(), make([]string, len(w))) {
			t.Errorf("New of room %d: %v", room, d)
		}
	}
	for _, room := range []int{0, -1, 401, math.MaxInt, math.MinInt} {
		if New(m, room) != nil {
			t.Errorf("there is a decoder of room %d", room)
		}
	}
	none := m
	none.Root = m.Root[1:]
	long := m
	long.Long = 4097
	for _, x := range []api.Manifest{{}, none, long} {
		if New(x, 5) != nil {
			t.Errorf("there is a decoder of %v", x)
		}
	}
}

// 15.1: a new one settles: what a rule of one block alone says is guessed.
func TestNewSettles(t *testing.T) {
	code := api.Code{Eps: api.Ratio{N: 1, D: 1}, Q: 8, F: 4}
	found := 0
	for seed := range 30 {
		m, w, _ := manifest.Publish("abc", manifest.Want{Size: 1, Seed: seed, Code: code})
		p, _ := manifest.Plan(m)
		rules, _ := outer.Rules(p)
		var alone []int
		for _, row := range rules {
			if len(row) == 1 {
				alone = append(alone, row[0])
			}
		}
		b := bench{t, m, w, New(m, 5)}
		b.is("at first", nil, alone, 0)
		if len(alone) == 0 {
			continue
		}
		found++
		b.learn(alone...)
		b.is("with the digests", alone, nil, 0)
		w[alone[0]] = "x"
		m.Root, _ = merkle.Root(w)
		b = bench{t, m, w, New(m, 5)}
		b.learn(alone[0])
		b.is("where the rule does not hold", nil, alone[1:], 0)
		if !b.d.Broken() {
			t.Errorf("it is not broken")
		}
	}
	if found < 3 {
		t.Errorf("%d plans have such rules: take others", found)
	}
}

// 15.1: digests that are learned, and such that are not.
func TestLearn(t *testing.T) {
	b := newBench(t)
	path, _ := merkle.Path(b.w, 2)
	digest := merkle.Leaf(b.w[2])
	other, _ := merkle.Path(b.w, 3)
	for _, i := range []int{-1, len(b.w), 160, math.MaxInt, math.MinInt} {
		if e := b.d.Learn(i, digest, path); e != api.ErrArg {
			t.Errorf("Learn %d: %v", i, e)
		}
		if s, l, is := b.d.Proof(i); s != "" || l != nil || is {
			t.Errorf("Proof %d: %q, %q", i, s, l)
		}
	}
	for k, x := range []struct {
		i      int
		digest string
		path   []string
	}{{2, merkle.Leaf("xx"), path}, {2, "", nil}, {2, digest, nil}, {2, digest, path[1:]}, {2, digest, other}, {2, digest[1:], path}, {2, digest + "\x00", path}, {3, digest, path}, {2, digest, append(slices.Clone(path), digest)}, {2, b.m.Root, nil}, {2, digest, slices.Repeat([]string{""}, len(path))}} {
		if e := b.d.Learn(x.i, x.digest, x.path); e != api.ErrBad {
			t.Errorf("Learn of the wrong one %d: %v", k, e)
		}
		if _, _, is := b.d.Proof(x.i); is {
			t.Errorf("the wrong one %d was learned", k)
		}
	}
	b.learn(2)
	if s, l, is := b.d.Proof(2); s != digest || !slices.Equal(l, path) || !is {
		t.Errorf("Proof: %q, %q", s, l)
	}
	for _, x := range []string{digest, merkle.Leaf("xx"), ""} {
		if e := b.d.Learn(2, x, path); e != api.ErrThere {
			t.Errorf("Learn again: %v", e)
		}
	}
}

// 15.2: the errors of Add, in their order; none of them changes anything.
func TestAddErrors(t *testing.T) {
	b := newBench(t)
	b.d = New(b.m, 2)
	b.learn(5)
	b.lie(4, 5)
	b.lie(4, 5)
	b.add(1, 0, 1)
	all := len(b.w)
	for k, x := range []struct {
		peer int
		h    api.Head
		data string
		want api.Errno
	}{
		{0, one(0), "ab", api.ErrArg}, {16, one(0), "ab", api.ErrArg}, {-1, one(0), "ab", api.ErrArg}, {math.MaxInt, one(99), "", api.ErrArg}, {math.MinInt, one(0), "ab", api.ErrArg},
		{4, one(0), "ab", api.ErrBan}, {4, one(all), "a", api.ErrBan},
		{1, one(all), "ab", api.ErrForm}, {1, one(-1), "ab", api.ErrForm}, {1, one(all), "a", api.ErrForm}, {1, api.Head{Mode: 3}, "ab", api.ErrForm}, {1, api.Head{Seed: api.MaxSeed + 1}, "ab", api.ErrForm}, {1, api.Head{Mode: api.ModeSome, Have: bits.Empty(all)}, "ab", api.ErrForm}, {1, api.Head{Have: bits.Full(all)}, "ab", api.ErrForm},
		{1, one(0), "", api.ErrBad}, {1, one(0), "a", api.ErrBad}, {1, one(0), "abc", api.ErrBad}, {1, one(0), strings.Repeat("a", 65), api.ErrBad}, {1, pair(t, b.m, 0, 1), "a", api.ErrBad},
		{1, pair(t, b.m, 0, 1), "ab", api.ErrThere}, {15, pair(t, b.m, 2, 3), "ab", api.OK}, {1, pair(t, b.m, 0, 1), "ab", api.ErrThere}, {2, pair(t, b.m, 0, 1), "ab", api.ErrFull}, {1, one(0), "ab", api.ErrFull},
	} {
		if e := b.d.Add(x.peer, x.h, x.data); e != x.want {
			t.Errorf("Add %d: %v, want %v", k, e, x.want)
		}
	}
	b.is("behind the errors", nil, nil, 2)
	if b.d.KeptOf(1) != 1 || b.d.KeptOf(15) != 1 || b.d.KeptOf(2) != 0 || b.d.Blames(4) != 2 {
		t.Errorf("KeptOf: %d, %d", b.d.KeptOf(1), b.d.KeptOf(15))
	}
}

// 15.2: a guess of a guess; they hang on their equations, and go with them.
func TestGuesses(t *testing.T) {
	b := newBench(t)
	b.add(1, 0)
	b.add(2, 0, 1)
	b.add(3, 1, 2)
	b.is("a chain", nil, []int{0, 1, 2}, 3)
	if e := b.d.Evict(2); e != api.OK {
		t.Errorf("Evict: %v", e)
	}
	b.is("without its second", nil, []int{0}, 2)
	b.learn(2, 1)
	b.is("digests of what is not guessed", nil, []int{0}, 2)
	b.learn(0)
	b.is("the first one is verified", []int{0}, nil, 1)
	b.add(2, 0, 1)
	b.is("all are", []int{0, 1, 2}, nil, 0)
	if e := b.d.Evict(2); e != api.ErrNone {
		t.Errorf("Evict of none: %v", e)
	}
}

// 15.2: the least number of a peer goes first, and another equation says the block anew.
func TestEvict(t *testing.T) {
	b := newBench(t)
	b.lie(4, 1)
	b.add(4, 0, 1)
	b.add(2, 1)
	b.add(4, 3)
	b.is("at first", nil, []int{0, 1, 3}, 4)
	for _, peer := range []int{0, 1, 16, -1, math.MaxInt, math.MinInt} {
		if e := b.d.Evict(peer); e != api.ErrNone {
			t.Errorf("Evict(%d): %v", peer, e)
		}
	}
	for k, want := range [][]int{{0, 1, 3}, {1, 3}, {1}} {
		if e := b.d.Evict(4); e != api.OK {
			t.Errorf("Evict: %v", e)
		}
		b.is("evicted", nil, want, 3-k)
	}
	b.learn(1)
	b.is("it was said anew by another one", []int{1}, nil, 0)
	if b.d.Evict(4) != api.ErrNone || b.d.Blames(4) != 0 {
		t.Errorf("who was evicted is blamed %d times", b.d.Blames(4))
	}
}

// 15.2: whose lie made another one's equation wrong is blamed alone: that one is held, and speaks when all else in it is verified.
func TestHeld(t *testing.T) {
	b := newBench(t)
	b.lie(4, 0)
	b.add(1, 0, 1)
	b.is("guesses", nil, []int{0, 1}, 2)
	b.learn(1)
	b.is("the second one fails", nil, []int{0}, 2)
	b.add(2, 2)
	b.is("it is held", nil, []int{0, 2}, 3)
	b.learn(0)
	b.is("the lie is found", nil, []int{2}, 2)
	if b.d.Blames(4) != 1 || b.d.Blames(1) != 0 {
		t.Errorf("blames: %d, %d", b.d.Blames(4), b.d.Blames(1))
	}
	b.add(3, 0)
	b.is("by the truth", []int{0, 1}, []int{2}, 1)
	if b.d.Blames(1)+b.d.Blames(2)+b.d.Blames(3) != 0 || b.d.Banned(4) {
		t.Errorf("the wrong ones are blamed")
	}
}

// 15.2: what is held does not speak by a guess again, though that is another one; by a verified block it does, and a lie in it is found.
func TestHeldLie(t *testing.T) {
	b := newBench(t)
	b.learn(1)
	b.add(2, 0)
	b.lie(4, 0, 1)
	b.is("the lie fails, and is held", nil, []int{0}, 2)
	if b.d.Blames(4) != 0 {
		t.Errorf("blamed too early")
	}
	b.d.Evict(2)
	b.add(3, 0)
	b.is("another guess", nil, []int{0}, 2)
	b.learn(0)
	b.is("the lie is found", []int{0}, nil, 0)
	if b.d.Blames(4) != 1 || b.d.Blames(3) != 0 {
		t.Errorf("blames: %d, %d", b.d.Blames(4), b.d.Blames(3))
	}
}

// 15.2: with the second blame all that a peer sent goes, and what hung on it; what others say instead comes up.
func TestBan(t *testing.T) {
	b := newBench(t)
	b.lie(4, 0)
	b.lie(4, 1)
	b.lie(4, 2)
	b.add(4, 3)
	b.add(1, 2, 5)
	b.add(2, 2)
	b.is("at first", nil, []int{0, 1, 2, 3, 5}, 6)
	b.learn(0)
	b.is("one blame", nil, []int{1, 2, 3, 5}, 5)
	if b.d.Blames(4) != 1 || b.d.Banned(4) || b.d.KeptOf(4) != 3 {
		t.Errorf("%d blames, %d kept", b.d.Blames(4), b.d.KeptOf(4))
	}
	b.learn(1)
	b.is("two blames", nil, []int{2, 5}, 2)
	if b.d.Blames(4) != 2 || !b.d.Banned(4) || b.d.KeptOf(4) != 0 || b.d.Add(4, one(9), "ab") != api.ErrBan {
		t.Errorf("%d blames, %d kept", b.d.Blames(4), b.d.KeptOf(4))
	}
	b.learn(2, 5)
	b.is("the truth", []int{2, 5}, nil, 0)
}

// 15.2: an equation all of whose blocks are verified is spent, at once and later; if it is false, its peer is blamed.
func TestSpent(t *testing.T) {
	b := newBench(t)
	b.learn(0, 1)
	b.add(1, 0)
	b.add(1, 1)
	b.is("two blocks", []int{0, 1}, nil, 0)
	b.add(2, 0, 1)
	b.add(2, 0, 1)
	b.is("true ones are spent", []int{0, 1}, nil, 0)
	b.lie(3, 0, 1)
	b.is("a false one is spent", []int{0, 1}, nil, 0)
	b.lie(3, 1)
	if b.d.Blames(2) != 0 || b.d.Blames(3) != 2 || !b.d.Banned(3) {
		t.Errorf("blames: %d, %d", b.d.Blames(2), b.d.Blames(3))
	}
}

// 15.2: what is spent comes ahead of what is guessed: a liar who is banned by the one does not speak by the other.
func TestSpentAheadOfGuessed(t *testing.T) {
	for _, lies := range []int{1, 0} {
		b := newBench(t)
		b.learn(0, 2, 11)
		for range lies {
			b.lie(4, 11)
		}
		b.add(1, 3)
		for _, x := range [][]int{{3, 4}, {4, 5}, {5, 6}, {6, 7}, {7, 8}, {8, 9}, {1, 9}} {
			b.add(1, x...)
		}
		b.add(1, 0)
		b.lie(4, 0, 1)
		b.add(4, 1, 2)
		b.is("one has too many roots to speak of 2", []int{0}, []int{1, 3, 4, 5, 6, 7, 8, 9}, 10)
		b.learn(1)
		if is := b.d.Block(2) == b.w[2]; is != (lies == 0) || b.d.Blames(4) != lies+1 || b.d.KeptOf(4) != 0 {
			t.Errorf("with %d lies ahead: block 2: %q, %d blames", lies, b.d.Block(2), b.d.Blames(4))
		}
	}
}

// 15.2: a guess of more than MaxRoots roots is not made; a verified block cuts the chain.
func TestMaxRoots(t *testing.T) {
	b := newBench(t)
	b.add(1, 0)
	for i := range 9 {
		b.add(1, i, i+1)
	}
	b.is("a chain of ten", nil, []int{0, 1, 2, 3, 4, 5, 6, 7}, 10)
	b.add(1, 2, 9)
	b.is("from another end", nil, []int{0, 1, 2, 3, 4, 5, 6, 7, 8, 9}, 11)
	b.d.Evict(1)
	b.is("without its first", nil, nil, 10)
	b.add(1, 0)
	b.learn(7)
	b.is("one of its middle is verified", []int{7}, []int{0, 1, 2, 3, 4, 5, 6, 8, 9}, 11)
	b.learn(0, 1, 2, 3, 4, 5, 6, 8, 9)
	if b.d.Kept() != 0 || b.d.Blames(1) != 0 || bits.Count(b.d.Have()) < 10 {
		t.Errorf("in the end: %d kept, %x", b.d.Kept(), b.d.Have())
	}
}

// 15.2: a rule that is gone speaks no more; the decoder is broken, and goes on.
func TestBroken(t *testing.T) {
	m, w, _ := manifest.Publish("a", manifest.Want{Size: 1, Code: half()})
	w[1] = "b"
	m.Root, _ = merkle.Root(w)
	for _, order := range [][]int{{0, 1}, {1, 0}} {
		b := bench{t, m, w, New(m, 5)}
		b.learn(order...)
		b.add(1, 0)
		b.is("the rule fails", []int{0}, nil, 0)
		if !b.d.Broken() || !b.d.Done() {
			t.Errorf("Broken: %v", b.d.Broken())
		}
		b.add(1, 1)
		b.is("by an equation", []int{0, 1}, nil, 0)
	}
	b := bench{t, m, w, New(m, 5)}
	b.learn(0)
	b.add(1, 0)
	b.add(1, 1)
	b.is("a rule's guess", []int{0}, []int{1}, 1)
	b.learn(1)
	b.is("by the other equation", []int{0, 1}, nil, 0)
	if !b.d.Broken() || b.d.Blames(1) != 0 {
		t.Errorf("Broken: %v, %d", b.d.Broken(), b.d.Blames(1))
	}
}

// 15.2: a rule that is held, and all of whose blocks get verified, is spent: then it is found not to hold.
func TestBrokenBySum(t *testing.T) {
	m, w, _ := manifest.Publish("a", manifest.Want{Size: 1, Code: half()})
	w[1] = "b"
	m.Root, _ = merkle.Root(w)
	b := bench{t, m, w, New(m, 5)}
	b.add(1, 0)
	b.add(1, 1)
	b.is("one is guessed by the rule", nil, []int{0, 1}, 2)
	b.learn(1)
	b.is("that fails, and another equation says it", []int{1}, []int{0}, 1)
	if b.d.Broken() {
		t.Errorf("broken too early")
	}
	b.learn(0)
	b.is("both are verified", []int{0, 1}, nil, 0)
	if !b.d.Broken() || b.d.Blames(1) != 0 {
		t.Errorf("Broken: %v, %d blames", b.d.Broken(), b.d.Blames(1))
	}
}

// 15.2: blocks that are put, and such that are not.
func TestPut(t *testing.T) {
	b := newBench(t)
	for _, i := range []int{-1, len(b.w), math.MaxInt, math.MinInt} {
		if e := b.d.Put(i, "ab"); e != api.ErrArg {
			t.Errorf("Put(%d): %v", i, e)
		}
	}
	if e := b.d.Put(0, b.w[0]); e != api.ErrNone {
		t.Errorf("Put without a digest: %v", e)
	}
	b.learn(0)
	for _, s := range []string{"", "x", "xx", b.w[0] + "\x00", b.w[1], strings.Repeat("x", 2000)} {
		if e := b.d.Put(0, s); e != api.ErrBad {
			t.Errorf("Put(%q): %v", s, e)
		}
	}
	b.add(1, 0, 1)
	b.is("at first", nil, nil, 1)
	if e := b.d.Put(0, b.w[0]); e != api.OK {
		t.Errorf("Put: %v", e)
	}
	b.is("it settles", []int{0}, []int{1}, 1)
	for _, s := range []string{b.w[0], "xx", ""} {
		if e := b.d.Put(0, s); e != api.ErrThere {
			t.Errorf("Put again: %v", e)
		}
	}
	if e := b.d.Put(1, b.w[1]); e != api.ErrNone {
		t.Errorf("Put of a guess without a digest: %v", e)
	}
}

// 15.2: a digest may be that of bytes that are no block of the size: then no block has it.
func TestPutOfOtherSize(t *testing.T) {
	m, w, _ := manifest.Publish("ab", manifest.Want{Size: 2, Code: half()})
	w[0] = "abc"
	m.Root, _ = merkle.Root(w)
	b := bench{t, m, w, New(m, 5)}
	b.learn(0)
	if e := b.d.Put(0, "abc"); e != api.ErrBad {
		t.Errorf("Put: %v", e)
	}
}

// 15.3: the file of blocks behind whose bytes something else than 0 stands is block.Join's error.
func TestFile(t *testing.T) {
	m, w, _ := manifest.Publish("hello", manifest.Want{Size: 2, Code: half()})
	b := bench{t, m, w, New(m, 5)}
	for i := range 3 {
		if s, e := b.d.File(); s != "" || e != api.ErrNone || b.d.Done() {
			t.Errorf("File of %d blocks: %q, %v", i, s, e)
		}
		b.learn(i)
		b.add(1, i)
	}
	if s, e := b.d.File(); s != "hello" || e != api.OK || !b.d.Done() {
		t.Errorf("File: %q, %v", s, e)
	}
	w[2] = "ox"
	m.Root, _ = merkle.Root(w)
	b = bench{t, m, w, New(m, 5)}
	b.learn(0, 1, 2)
	for i := range 3 {
		b.add(1, i)
	}
	if s, e := b.d.File(); s != "" || e != api.ErrBad || !b.d.Done() {
		t.Errorf("File with a byte behind it: %q, %v", s, e)
	}
}

// 15.3: what is not there.
func TestNothing(t *testing.T) {
	b := newBench(t)
	b.add(1, 0)
	for _, i := range []int{0, -1, 1, len(b.w), math.MaxInt, math.MinInt} {
		if s := b.d.Block(i); s != "" {
			t.Errorf("Block(%d): %q", i, s)
		}
		if s, l, is := b.d.Proof(i); s != "" || l != nil || is {
			t.Errorf("Proof(%d): %q, %q", i, s, l)
		}
	}
	for _, peer := range []int{0, -1, 2, 16, math.MaxInt, math.MinInt} {
		if b.d.Blames(peer) != 0 || b.d.Banned(peer) || b.d.KeptOf(peer) != 0 {
			t.Errorf("peer %d: %d, %d", peer, b.d.Blames(peer), b.d.KeptOf(peer))
		}
	}
}

// 15.3: a nil decoder.
func TestNil(t *testing.T) {
	var d *Decoder
	b := newBench(t)
	path, _ := merkle.Path(b.w, 0)
	for k, e := range []api.Errno{d.Learn(0, merkle.Leaf(b.w[0]), path), d.Add(1, one(0), "ab"), d.Evict(1), d.Put(0, "ab")} {
		if e != api.ErrArg {
			t.Errorf("call %d: %v", k, e)
		}
	}
	if s, e := d.File(); s != "" || e != api.ErrArg {
		t.Errorf("File: %q, %v", s, e)
	}
	if s, l, is := d.Proof(0); s != "" || l != nil || is {
		t.Errorf("Proof: %q, %q", s, l)
	}
	if d.Manifest() != (api.Manifest{}) || d.Have() != "" || d.Block(0) != "" || len(d.Whole())+len(d.Asks())+len(d.Guesses()) != 0 || d.Done() || d.Blames(1) != 0 || d.Banned(1) || d.Kept() != 0 || d.KeptOf(1) != 0 || d.Broken() {
		t.Errorf("a nil decoder has something")
	}
}

// 15.3: what is handed in, and what is answered, shares no memory with what is kept.
func TestMemory(t *testing.T) {
	b := newBench(t)
	path, _ := merkle.Path(b.w, 0)
	kept := slices.Clone(path)
	b.d.Learn(0, merkle.Leaf(b.w[0]), path)
	if !slices.Equal(path, kept) {
		t.Errorf("the path is changed")
	}
	path[0] = "x"
	b.add(1, 0)
	b.add(1, 1)
	b.add(1, 2)
	_, l, _ := b.d.Proof(0)
	if !slices.Equal(l, kept) {
		t.Errorf("Proof behind a change of what was handed in: %q", l)
	}
	l[1] = "x"
	w := b.d.Whole()
	w[0], w[1] = "x", "y"
	for _, l := range [][]int{b.d.Guesses(), b.d.Asks()} {
		l[0], l[1] = 7, 8
	}
	b.is("behind changes of what was answered", []int{0}, []int{1, 2}, 2)
	if _, l, _ := b.d.Proof(0); !slices.Equal(l, kept) {
		t.Errorf("Proof behind a change of what it answered: %q", l)
	}
}
