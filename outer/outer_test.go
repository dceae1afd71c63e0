package outer

import (
	"crypto/sha256"
	"encoding/binary"
	"math"
	"math/rand"
	"slices"
	"strings"
	"testing"

	"mosaic/api"
)

// rightPlans are plans that may be, of all kinds: of few blocks and of many, with fewer auxiliary ones than are joined, with such as nobody joins.
func rightPlans() []Plan {
	return []Plan{
		{0, 1, 1, 1}, {0, 1, 1, 8}, {0, 1, 2, 8}, {0, 2, 1, 1}, {0, 1, 64, 1}, {5, 1, 64, 8}, {7, 6, 3, 2}, {7, 6, 3, 3}, {7, 6, 3, 4}, {8, 6, 3, 2}, {9, 10, 5, 1}, {9, 10, 64, 3},
		{1, 96, 64, 8}, {1, 96, 1, 8}, {1, 96, 8, 8}, {1, 96, 9, 8}, {1, 96, 64, 1}, {255, 20, 7, 3}, {256, 20, 7, 3}, {1 << 55, 20, 7, 3}, {api.MaxSeed, 20, 7, 3}, {api.MaxSeed, 96, 64, 8}, {api.MaxSeed - 1, 33, 12, 5},
	}
}

// wrongPlans are plans that may not be: in just one part each, and in all.
func wrongPlans() []Plan {
	l := []Plan{{}, {-1, 0, 0, 0}, {math.MinInt, math.MinInt, math.MinInt, math.MinInt}, {math.MaxInt, math.MaxInt, math.MaxInt, math.MaxInt}}
	for _, x := range []int{-1, api.MaxSeed + 1, 1 << 57, math.MaxInt, math.MinInt} {
		l = append(l, Plan{x, 6, 3, 2})
	}
	for _, x := range []int{0, -1, 97, 256 + 6, 1<<32 + 6, math.MaxInt, math.MinInt} {
		l = append(l, Plan{7, x, 3, 2})
	}
	for _, x := range []int{0, -1, 65, 256 + 3, 1<<32 + 3, math.MaxInt, math.MinInt} {
		l = append(l, Plan{7, 6, x, 2})
	}
	for _, x := range []int{0, -1, 9, 256 + 2, 1<<32 + 2, math.MaxInt, math.MinInt} {
		l = append(l, Plan{7, 6, 3, x})
	}
	return l
}

// wordsByDocument are the first words of a seed text.
func wordsByDocument(seed string, blocks int) []uint32 {
	var words []uint32
	for k := range blocks {
		text := append([]byte{2, byte(len(seed))}, seed...)
		text = append(text, binary.BigEndian.AppendUint64(nil, uint64(k))[1:]...)
		sum := sha256.Sum256(text)
		for i := 0; i < 32; i += 4 {
			words = append(words, binary.BigEndian.Uint32(sum[i:]))
		}
	}
	return words
}

// joinsByDocument picks by words of its own; that a word is not below the greatest fair one does not happen with so few of them, and is looked for.
func joinsByDocument(t *testing.T, p Plan, i int) []int {
	seed := "outer" + string(binary.BigEndian.AppendUint64(nil, uint64(p.Seed))[1:]) + string([]byte{0, byte(i)})
	words := wordsByDocument(seed, 1)
	all := make([]int, p.Aux)
	for k := range all {
		all[k] = k
	}
	k := min(p.Q, p.Aux)
	for at := range k {
		n := uint64(p.Aux - at)
		if uint64(words[at]) >= 1<<32-(1<<32)%n {
			t.Fatalf("a word that is not taken: take other plans")
		}
		to := at + int(uint64(words[at])%n)
		all[at], all[to] = all[to], all[at]
	}
	picked := all[:k]
	slices.Sort(picked)
	return picked
}

// membersByDocument asks each message block.
func membersByDocument(t *testing.T, p Plan, j int) []int {
	var l []int
	for i := range p.N {
		if slices.Contains(joinsByDocument(t, p, i), j) {
			l = append(l, i)
		}
	}
	return l
}

// sumByDocument adds the blocks of some numbers.
func sumByDocument(blocks []string, numbers []int, size int) string {
	b := make([]byte, size)
	for _, i := range numbers {
		for at := range b {
			b[at] ^= blocks[i][at]
		}
	}
	return string(b)
}

// someBlocks are n blocks of a size, unlike ones.
func someBlocks(n, size int, r *rand.Rand) []string {
	l := make([]string, n)
	for i := range l {
		b := make([]byte, size)
		r.Read(b)
		l[i] = string(b)
	}
	return l
}

// wholeOf is a whole of random blocks.
func wholeOf(t *testing.T, p Plan, size int, seed int64) []string {
	w, e := Whole(p, someBlocks(p.N, size, rand.New(rand.NewSource(seed))))
	if e != api.OK || len(w) != p.N+p.Aux {
		t.Fatalf("%v: Whole: %d blocks, %v", p, len(w), e)
	}
	return w
}

// spoilt is a list with one bit of the i-th text changed.
func spoilt(l []string, i, bit int) []string {
	out := slices.Clone(l)
	b := []byte(out[i])
	b[bit/8] ^= 1 << (bit % 8)
	out[i] = string(b)
	return out
}

// 9.1: which plans may be, at the edges of each part.
func TestCheck(t *testing.T) {
	for _, p := range rightPlans() {
		if !Check(p) {
			t.Errorf("%v may not be", p)
		}
	}
	for _, p := range wrongPlans() {
		if Check(p) {
			t.Errorf("%v may be", p)
		}
	}
	for n := -1; n <= api.MaxBlocks+1; n++ {
		for aux := -1; aux <= api.MaxAux+1; aux++ {
			for q := -1; q <= api.MaxQ+1; q++ {
				want := n >= 1 && n <= 96 && aux >= 1 && aux <= 64 && q >= 1 && q <= 8
				if got := Check(Plan{3, n, aux, q}); got != want {
					t.Fatalf("Check of %d, %d, %d: %v", n, aux, q, got)
				}
			}
		}
	}
}

// 9.1, 9.4: each message block joins what the seed text picks: as many as each other one, unlike ones, rising.
func TestJoins(t *testing.T) {
	for _, p := range rightPlans() {
		for i := range p.N {
			l, e := Joins(p, i)
			if e != api.OK || !slices.Equal(l, joinsByDocument(t, p, i)) {
				t.Errorf("Joins(%v, %d) = %v, %v, want %v", p, i, l, e, joinsByDocument(t, p, i))
			}
			if len(l) != min(p.Q, p.Aux) || !slices.IsSorted(l) || len(slices.Compact(slices.Clone(l))) != len(l) || l[0] < 0 || l[len(l)-1] >= p.Aux {
				t.Errorf("Joins(%v, %d) = %v", p, i, l)
			}
		}
	}
}

// 9.1: with as few auxiliary blocks as are joined, or fewer, all are joined.
func TestJoinsAll(t *testing.T) {
	for q := 1; q <= api.MaxQ; q++ {
		for aux := 1; aux <= q; aux++ {
			for i := range 5 {
				l, e := Joins(Plan{11, 5, aux, q}, i)
				if e != api.OK || len(l) != aux || l[0] != 0 || l[aux-1] != aux-1 {
					t.Errorf("%d auxiliary blocks, %d joined: %v, %v", aux, q, l, e)
				}
			}
		}
	}
}

// 9.1: Joins and Members of blocks that there are not, and of plans that may not be.
func TestNoSuchBlock(t *testing.T) {
	for _, p := range rightPlans() {
		for _, i := range []int{-1, p.N, p.N + 1, p.N + p.Aux, 256, 1 << 16, 1 << 32, math.MaxInt, math.MinInt} {
			if l, e := Joins(p, i); e != api.ErrArg || l != nil {
				t.Errorf("Joins(%v, %d) = %v, %v", p, i, l, e)
			}
		}
		for _, j := range []int{-1, p.Aux, p.Aux + 1, p.N + p.Aux, 256, 1 << 32, math.MaxInt, math.MinInt} {
			if l, e := Members(p, j); e != api.ErrArg || l != nil {
				t.Errorf("Members(%v, %d) = %v, %v", p, j, l, e)
			}
		}
	}
	for _, p := range wrongPlans() {
		for _, i := range []int{0, 1, -1, math.MaxInt, math.MinInt} {
			if l, e := Joins(p, i); e != api.ErrArg || l != nil {
				t.Errorf("Joins(%v, %d) = %v, %v", p, i, l, e)
			}
			if l, e := Members(p, i); e != api.ErrArg || l != nil {
				t.Errorf("Members(%v, %d) = %v, %v", p, i, l, e)
			}
		}
	}
}

// 9.1: who joins each auxiliary block; also such as nobody joins.
func TestMembers(t *testing.T) {
	alone := 0
	for _, p := range rightPlans() {
		for j := range p.Aux {
			want := membersByDocument(t, p, j)
			if l, e := Members(p, j); e != api.OK || !slices.Equal(l, want) {
				t.Errorf("Members(%v, %d) = %v, %v, want %v", p, j, l, e, want)
			}
			if len(want) == 0 {
				alone++
			}
		}
	}
	if alone == 0 {
		t.Errorf("no auxiliary block without members was looked at")
	}
}

// 9.1: the rules are the members and the auxiliary block behind them; the example.
func TestRules(t *testing.T) {
	for _, p := range rightPlans() {
		l, e := Rules(p)
		if e != api.OK || len(l) != p.Aux {
			t.Fatalf("Rules(%v): %v, %v", p, l, e)
		}
		for j, rule := range l {
			if want := append(membersByDocument(t, p, j), p.N+j); !slices.Equal(rule, want) {
				t.Errorf("rule %d of %v: %v, want %v", j, p, rule, want)
			}
		}
	}
	if l, e := Rules(Plan{0, 1, 1, 1}); e != api.OK || len(l) != 1 || !slices.Equal(l[0], []int{0, 1}) {
		t.Errorf("the example: %v, %v", l, e)
	}
	for _, p := range wrongPlans() {
		if l, e := Rules(p); e != api.ErrArg || l != nil {
			t.Errorf("Rules(%v) = %v, %v", p, l, e)
		}
	}
}

// R3: no two lists of an answer, and no two answers, share memory.
func TestListsStandAlone(t *testing.T) {
	p := Plan{7, 6, 3, 2}
	want, _ := Rules(p)
	spoil, _ := Rules(p)
	for j := range spoil {
		spoil[j] = append(spoil[j], -1)
		for i := range spoil[j] {
			spoil[j][i] = -1
		}
		for k := j + 1; k < len(spoil); k++ {
			if !slices.Equal(spoil[k], want[k]) {
				t.Errorf("rules %d and %d share memory", j, k)
			}
		}
	}
	l, _ := Joins(p, 0)
	m, _ := Members(p, 0)
	kept, keptM := slices.Clone(l), slices.Clone(m)
	clear(l)
	clear(m)
	if again, _ := Rules(p); !slices.EqualFunc(again, want, slices.Equal) {
		t.Errorf("Rules afterwards: %v", again)
	}
	if again, _ := Joins(p, 0); !slices.Equal(again, kept) {
		t.Errorf("Joins afterwards: %v", again)
	}
	if again, _ := Members(p, 0); !slices.Equal(again, keptM) {
		t.Errorf("Members afterwards: %v", again)
	}
}

// 9.2: the whole is the message blocks, and sums of those that join, of each size; all rules hold of it.
func TestWhole(t *testing.T) {
	r := rand.New(rand.NewSource(1))
	for k, p := range rightPlans() {
		for _, size := range []int{1, 2, 1 + k%64, 63, 64} {
			blocks := someBlocks(p.N, size, r)
			kept := slices.Clone(blocks)
			w, e := Whole(p, blocks)
			if e != api.OK || len(w) != p.N+p.Aux || !slices.Equal(w[:p.N], blocks) || !slices.Equal(kept, blocks) {
				t.Fatalf("Whole of %v: %q, %v", p, w, e)
			}
			for j := range p.Aux {
				if want := sumByDocument(blocks, membersByDocument(t, p, j), size); w[p.N+j] != want {
					t.Errorf("auxiliary block %d of %v: %x, want %x", j, p, w[p.N+j], want)
				}
			}
			if !Holds(p, w) {
				t.Errorf("the rules of %v do not hold", p)
			}
			clear(w)
			if !slices.Equal(kept, blocks) {
				t.Errorf("the whole shares memory with the blocks")
			}
		}
	}
	if w, e := Whole(Plan{0, 1, 1, 1}, []string{"ab"}); e != api.OK || !slices.Equal(w, []string{"ab", "ab"}) {
		t.Errorf("the example: %q, %v", w, e)
	}
}

// 9.2: blocks with room behind them: what stands there is left as it is.
func TestWholeLeavesWhatIsBehind(t *testing.T) {
	all := []string{"a", "b", "c", "d", "e", "f", "x", "y", "z"}
	if w, e := Whole(Plan{7, 6, 3, 2}, all[:6]); e != api.OK || len(w) != 9 || !slices.Equal(all[6:], []string{"x", "y", "z"}) {
		t.Errorf("behind the blocks: %q, %v", all[6:], e)
	}
}

// 9.2: too few blocks, too many, of no size, of two sizes; plans that may not be.
func TestWholeErrors(t *testing.T) {
	p := Plan{7, 6, 3, 2}
	right := []string{"a1", "b2", "c3", "d4", "e5", "f6"}
	many := func(n, long int) []string { return slices.Repeat([]string{strings.Repeat("a", long)}, n) }
	wrong := [][]string{nil, {}, right[1:], right[:5], append(slices.Clone(right), "g7"), many(9, 2), many(6, 0), many(6, 65), many(6, 128), many(0, 2)}
	for i := range right {
		for _, s := range []string{"", "x", "xxx", strings.Repeat("x", 64)} {
			l := slices.Clone(right)
			l[i] = s
			wrong = append(wrong, l)
		}
	}
	for _, l := range wrong {
		if w, e := Whole(p, l); e != api.ErrArg || w != nil {
			t.Errorf("Whole of %q: %q, %v", l, w, e)
		}
	}
	for _, p := range wrongPlans() {
		for _, l := range [][]string{nil, right, many(max(0, min(p.N, 300)), 2)} {
			if w, e := Whole(p, l); e != api.ErrArg || w != nil {
				t.Errorf("Whole of %v: %q, %v", p, w, e)
			}
		}
	}
	for _, long := range []int{1, 64} {
		if w, e := Whole(p, many(6, long)); e != api.OK || len(w) != 9 {
			t.Errorf("Whole of blocks of %d bytes: %v", long, e)
		}
	}
}

// 9.2: a rule does not hold any more when a bit of a block is another one, whichever.
func TestHoldsOfNoOther(t *testing.T) {
	for _, p := range []Plan{{0, 1, 1, 1}, {7, 6, 3, 2}, {5, 4, 30, 2}, {1, 30, 1, 8}} {
		w := wholeOf(t, p, 3, 2)
		for i := range w {
			for bit := range 24 {
				if Holds(p, spoilt(w, i, bit)) {
					t.Errorf("%v: the rules hold, with bit %d of block %d changed", p, bit, i)
				}
			}
		}
		kept := slices.Clone(w)
		if !Holds(p, w) || !slices.Equal(kept, w) {
			t.Errorf("%v: the whole itself", p)
		}
	}
}

// 9.2: what holds of blocks that nobody cut: all bytes 0; the same lie in one message block and in those it joins.
func TestHoldsWhoeverMadeIt(t *testing.T) {
	p := Plan{7, 6, 3, 2}
	if !Holds(p, slices.Repeat([]string{"\x00\x00"}, 9)) {
		t.Errorf("the rules do not hold of bytes 0")
	}
	w := spoilt(wholeOf(t, p, 2, 3), 4, 9)
	for _, j := range joinsByDocument(t, p, 4) {
		w = spoilt(w, 6+j, 9)
	}
	if !Holds(p, w) {
		t.Errorf("the rules do not hold of another whole")
	}
}

// 9.2: what is no whole of the plan.
func TestHoldsOfNoWhole(t *testing.T) {
	p := Plan{7, 6, 3, 2}
	w := wholeOf(t, p, 2, 4)
	zeros := func(n, long int) []string { return slices.Repeat([]string{strings.Repeat("\x00", long)}, n) }
	for _, l := range [][]string{nil, {}, w[1:], w[:8], append(slices.Clone(w), "\x00\x00"), zeros(9, 0), zeros(9, 65), zeros(8, 2), zeros(10, 2), zeros(6, 2), zeros(3, 2)} {
		if Holds(p, l) {
			t.Errorf("the rules hold of %q", l)
		}
	}
	for i := range w {
		for _, s := range []string{"", w[i][:1], w[i] + "\x00"} {
			l := slices.Clone(w)
			l[i] = s
			if Holds(p, l) {
				t.Errorf("the rules hold of %q", l)
			}
		}
	}
	for _, p := range wrongPlans() {
		for _, l := range [][]string{nil, w, zeros(max(0, min(p.N, 100)+min(p.Aux, 100)), 2)} {
			if Holds(p, l) {
				t.Errorf("the rules of %v hold", p)
			}
		}
	}
	if !Holds(p, zeros(9, 64)) || !Holds(p, zeros(9, 1)) {
		t.Errorf("the rules do not hold of the greatest or the least size")
	}
}

// fillByDocument takes a rule that fills in one, whichever, as long as there is one.
func fillByDocument(t *testing.T, p Plan, whole []string, size int, r *rand.Rand) ([]string, api.Errno) {
	rules := make([][]int, p.Aux)
	for j := range rules {
		rules[j] = append(membersByDocument(t, p, j), p.N+j)
	}
	full := slices.Clone(whole)
	for again := true; again; {
		again = false
		r.Shuffle(len(rules), func(i, j int) { rules[i], rules[j] = rules[j], rules[i] })
		for _, rule := range rules {
			others := slices.DeleteFunc(slices.Clone(rule), func(i int) bool { return full[i] == "" })
			if len(others) != len(rule)-1 {
				continue
			}
			for _, i := range rule {
				if full[i] == "" {
					full[i] = sumByDocument(full, others, size)
				}
			}
			again = true
			break
		}
	}
	for _, rule := range rules {
		if slices.ContainsFunc(rule, func(i int) bool { return full[i] == "" }) {
			continue
		}
		if strings.Trim(sumByDocument(full, rule, size), "\x00") != "" {
			return nil, api.ErrBad
		}
	}
	return full, api.OK
}

// 9.3, 9.4: what was taken out of a whole is filled in, as far as the rules go; nothing else is.
func TestFill(t *testing.T) {
	r := rand.New(rand.NewSource(5))
	some, none, chains := 0, 0, 0
	for k, p := range []Plan{{0, 1, 1, 1}, {7, 6, 3, 2}, {7, 6, 3, 3}, {9, 10, 5, 1}, {3, 12, 8, 2}, {5, 4, 30, 2}, {6, 20, 20, 3}} {
		for round := range 40 {
			w := wholeOf(t, p, 1+(k+round)%64, int64(round))
			holes := slices.Clone(w)
			for range 1 + r.Intn(len(w)) {
				holes[r.Intn(len(w))] = ""
			}
			if strings.Join(holes, "") == "" {
				continue
			}
			kept := slices.Clone(holes)
			want, _ := fillByDocument(t, p, holes, len(w[0]), r)
			got, e := Fill(p, holes)
			if e != api.OK || !slices.Equal(got, want) || !slices.Equal(kept, holes) {
				t.Fatalf("Fill(%v, %q) = %q, %v, want %q", p, holes, got, e, want)
			}
			for i := range got {
				if got[i] != "" && got[i] != w[i] {
					t.Errorf("Fill(%v): block %d is %x, and was %x", p, i, got[i], w[i])
				}
			}
			if slices.Equal(got, w) {
				some++
			}
			if slices.Equal(got, holes) {
				none++
			}
			if slices.Contains(got, "") && !slices.Equal(got, holes) {
				chains++
			}
		}
	}
	if some < 20 || none < 20 || chains < 20 {
		t.Errorf("%d were filled wholly, %d not at all, %d partly: take other holes", some, none, chains)
	}
}

// 9.3: any one block is filled in, and all auxiliary ones; a whole is filled as it is.
func TestFillOne(t *testing.T) {
	for _, p := range rightPlans() {
		w := wholeOf(t, p, 5, 6)
		for i := range w {
			holes := slices.Clone(w)
			holes[i] = ""
			if len(w) > 40 && i%13 > 0 {
				continue
			}
			if got, e := Fill(p, holes); e != api.OK || !slices.Equal(got, w) {
				t.Errorf("Fill(%v) without block %d: %v", p, i, e)
			}
		}
		if got, e := Fill(p, append(slices.Clone(w[:p.N]), make([]string, p.Aux)...)); e != api.OK || !slices.Equal(got, w) {
			t.Errorf("Fill(%v) of the message blocks: %v", p, e)
		}
		got, e := Fill(p, w)
		if e != api.OK || !slices.Equal(got, w) {
			t.Errorf("Fill(%v) of the whole: %v", p, e)
		}
		clear(got)
		if !Holds(p, w) {
			t.Errorf("Fill(%v): the answer shares memory with the whole", p)
		}
	}
}

// 9.3: rules are gone through again from the first one on: a later one may fill in what an earlier one lacks.
func TestFillBeginsAnew(t *testing.T) {
	r := rand.New(rand.NewSource(7))
	long := 0
	for seed := range 300 {
		p := Plan{seed, 5, 5, 2}
		w := wholeOf(t, p, 2, int64(seed))
		holes := slices.Clone(w)
		for i := range 5 {
			if i != seed%5 {
				holes[i] = ""
			}
		}
		want, _ := fillByDocument(t, p, holes, 2, r)
		if got, e := Fill(p, holes); e != api.OK || !slices.Equal(got, want) {
			t.Errorf("Fill(%v, %q) = %q, %v, want %q", p, holes, got, e, want)
		}
		if slices.Equal(want, w) {
			long++
		}
	}
	if long < 20 {
		t.Errorf("only %d were filled wholly", long)
	}
}

// 9.3: a block that nobody joins adds up to bytes 0, whatever else is there; and is a lie, if it is something else.
func TestFillOfARuleOfOne(t *testing.T) {
	p := Plan{0, 1, 8, 1}
	l := joinsByDocument(t, p, 0)
	holes := make([]string, 9)
	holes[1+l[0]] = "hi"
	want := slices.Repeat([]string{"\x00\x00"}, 9)
	want[0], want[1+l[0]] = "hi", "hi"
	if got, e := Fill(p, holes); e != api.OK || !slices.Equal(got, want) {
		t.Errorf("Fill(%q) = %q, %v, want %q", holes, got, e, want)
	}
	holes[1+(l[0]+1)%8] = "no"
	if got, e := Fill(p, holes); e != api.ErrBad || got != nil {
		t.Errorf("Fill(%q) = %q, %v", holes, got, e)
	}
}

// 9.3: a rule all of whose blocks are there, from the beginning or in the end, and does not hold: ErrBad; a lie of which no rule tells stays.
func TestFillOfWhatIsBad(t *testing.T) {
	r := rand.New(rand.NewSource(8))
	bad, fine := 0, 0
	for k, p := range []Plan{{0, 1, 1, 1}, {7, 6, 3, 2}, {9, 10, 5, 1}, {3, 12, 8, 2}, {6, 20, 20, 3}} {
		for round := range 60 {
			size := 1 + (k+round)%64
			w := wholeOf(t, p, size, int64(round))
			w = spoilt(w, r.Intn(len(w)), r.Intn(8*size))
			if got, e := Fill(p, w); e != api.ErrBad || got != nil {
				t.Errorf("Fill(%v) of a whole with a lie: %q, %v", p, got, e)
			}
			for range r.Intn(len(w)) {
				w[r.Intn(len(w))] = ""
			}
			if strings.Join(w, "") == "" {
				continue
			}
			want, err := fillByDocument(t, p, w, size, r)
			if got, e := Fill(p, w); e != err || !slices.Equal(got, want) || e != api.OK && got != nil {
				t.Errorf("Fill(%v, %q) = %q, %v, want %q, %v", p, w, got, e, want, err)
			}
			if err == api.OK {
				fine++
			} else {
				bad++
			}
		}
	}
	if bad < 20 || fine < 20 {
		t.Errorf("%d are bad, %d fine: take others", bad, fine)
	}
}

// 9.3: what can't be filled: too few entries, too many, none that is a block, blocks of no size or of two; plans that may not be.
func TestFillErrors(t *testing.T) {
	p := Plan{7, 6, 3, 2}
	w := wholeOf(t, p, 2, 9)
	only := func(n, at int, s string) []string {
		l := make([]string, n)
		l[at] = s
		return l
	}
	wrong := [][]string{nil, {}, make([]string, 9), make([]string, 8), w[1:], w[:8], w[:6], append(slices.Clone(w), ""), append(slices.Clone(w), w[0]), only(8, 0, "ab"), only(10, 0, "ab"), only(9, 8, strings.Repeat("a", 65)), only(9, 0, strings.Repeat("a", 200))}
	for i := range w {
		for _, s := range []string{"x", "xxx", strings.Repeat("x", 64), strings.Repeat("x", 65)} {
			l := slices.Clone(w)
			l[i] = s
			few := only(9, i, s)
			few[(i+3)%9] = "ab"
			wrong = append(wrong, l, few)
		}
	}
	for _, l := range wrong {
		if got, e := Fill(p, l); e != api.ErrArg || got != nil {
			t.Errorf("Fill(%q) = %q, %v", l, got, e)
		}
	}
	for _, p := range wrongPlans() {
		n := max(0, min(p.N, 100)+min(p.Aux, 100))
		for _, l := range [][]string{nil, w, make([]string, n), only(n+1, 0, "ab")[:n]} {
			if got, e := Fill(p, l); e != api.ErrArg || got != nil {
				t.Errorf("Fill(%v) = %q, %v", p, got, e)
			}
		}
	}
	for i := range 9 {
		for _, long := range []int{1, 64} {
			if got, e := Fill(p, only(9, i, strings.Repeat("a", long))); e != api.OK || len(got) != 9 {
				t.Errorf("Fill of one block of %d bytes: %q, %v", long, got, e)
			}
		}
	}
}
