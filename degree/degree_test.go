package degree

import (
	"math"
	"math/big"
	"slices"
	"testing"

	"mosaic/api"
)

// code is one with Eps n by d, that need not be one that may be.
func code(n, d, q, f int) api.Code {
	return api.Code{Eps: api.Ratio{N: n, D: d}, Q: q, F: f}
}

// right are codes that may be: those at the edges, and some of all between.
func right() []api.Code {
	l := []api.Code{
		code(1, 2, 1, 4), code(1, 1, 1, 2), code(1, 2, 1, 2), code(1, 1, 8, 64), code(1, 64, 8, 64), code(16, 999, 3, 63), code(999, 1000, 2, 2),
		code(1, 3, 3, 3), code(2, 3, 5, 2), code(997, 1000, 8, 64), code(63, 1000, 7, 64), code(1, 63, 1, 63), code(501, 1000, 1, 2), code(499, 500, 4, 64), code(16, 999, 1, 64),
	}
	for d := 1; d <= api.MaxEpsD; d += 83 {
		for n := 1; n <= d; n += 19 {
			for _, f := range []int{2, 3, 5, 17, 40, 63, 64} {
				if c := code(n, d, 1+(n+f)%api.MaxQ, f); mayBe(c) {
					l = append(l, c)
				}
			}
		}
	}
	return l
}

// wrong are codes that may not be.
func wrong() []api.Code {
	return []api.Code{
		{}, {Q: 1, F: 4}, code(1, 2, 0, 4), code(1, 2, -1, 4), code(1, 2, 9, 4), code(1, 2, math.MaxInt, 4), code(1, 2, math.MinInt, 4),
		code(1, 2, 1, 1), code(1, 1, 1, 1), code(1, 1, 1, 0), code(1, 1, 1, -4), code(1, 2, 1, 65), code(1, 2, 1, math.MaxInt), code(1, 2, 1, math.MinInt), code(1, 1, 1, 1<<32),
		code(0, 1, 1, 4), code(-1, 2, 1, 4), code(-1, 1, 1, 4), code(2, 1, 1, 4), code(3, 2, 1, 4), code(1001, 1000, 1, 4), code(1000, 999, 1, 4),
		code(2, 4, 1, 4), code(2, 2, 1, 4), code(1, 0, 1, 4), code(1, -2, 1, 4), code(-1, -2, 1, 4), code(0, 0, 1, 4), code(0, 4, 1, 4),
		code(500, 1001, 1, 4), code(1001, 1001, 1, 4), code(1000, 1001, 1, 64), code(1, api.MaxRatio, 1, 64),
		code(1, 5, 1, 4), code(1, 3, 1, 2), code(1, 65, 8, 64), code(1, 1000, 8, 64), code(15, 961, 1, 64), code(499, 1000, 1, 2),
		code(math.MaxInt, math.MaxInt, 1, 4), code(math.MinInt, math.MinInt, 1, 4), code(1, math.MinInt, 1, 4), code(math.MaxInt, 1, 1, 64),
	}
}

// mayBe says what the chapter says of codes, by another reckoning.
func mayBe(c api.Code) bool {
	n, d := c.Eps.N, c.Eps.D
	if n < 1 || d < 1 || n > 1000 || d > 1000 || c.Q < 1 || c.Q > 8 || c.F < 2 || c.F > 64 {
		return false
	}
	eps := big.NewRat(int64(n), int64(d))
	if eps.Num().Int64() != int64(n) || eps.Cmp(big.NewRat(1, 1)) > 0 {
		return false
	}
	return eps.Cmp(big.NewRat(1, int64(c.F))) >= 0
}

func one() *big.Rat {
	return big.NewRat(1, 1)
}

// topChance is P: (1 + 1/F) / (1 + Eps).
func topChance(c api.Code) *big.Rat {
	upper := new(big.Rat).Add(one(), big.NewRat(1, int64(c.F)))
	lower := new(big.Rat).Add(one(), big.NewRat(int64(c.Eps.N), int64(c.Eps.D)))
	return upper.Quo(upper, lower)
}

// chanceByDocument is C(k): the chances of the degrees up to k, added up one by one, and not by the chapter's short form.
func chanceByDocument(c api.Code, k int) *big.Rat {
	p := topChance(c)
	all := new(big.Rat).Sub(one(), p)
	for i := 2; i <= k; i++ {
		share := big.NewRat(int64(c.F), int64((c.F-1)*i*(i-1)))
		all.Add(all, share.Mul(share, p))
	}
	return all
}

// tableByDocument are the integers next below 2^32 times C(k).
func tableByDocument(c api.Code) []int {
	var l []int
	for k := 1; k <= c.F; k++ {
		r := chanceByDocument(c, k)
		r.Mul(r, big.NewRat(1<<32, 1))
		l = append(l, int(new(big.Int).Div(r.Num(), r.Denom()).Int64()))
	}
	return l
}

// 6.1: which codes may be.
func TestCheck(t *testing.T) {
	if len(right()) < 500 {
		t.Errorf("%d codes are too few", len(right()))
	}
	for _, c := range right() {
		if !mayBe(c) {
			t.Errorf("the test's own code %v may not be", c)
		}
		if !Check(c) {
			t.Errorf("%v may not be", c)
		}
	}
	for _, c := range wrong() {
		if Check(c) {
			t.Errorf("%v may be", c)
		}
	}
}

// 6.1: all codes whose parts are small, or next to a bound.
func TestCheckAtTheEdges(t *testing.T) {
	parts := []int{-1, 0, 1, 2, 3, 4, 5, 15, 16, 31, 63, 64, 65, 499, 500, 501, 999, 1000, 1001, 1002}
	for _, n := range parts {
		for _, d := range parts {
			for _, q := range []int{-1, 0, 1, 2, 7, 8, 9} {
				for _, f := range []int{-1, 0, 1, 2, 3, 4, 62, 63, 64, 65} {
					if c := code(n, d, q, f); Check(c) != mayBe(c) {
						t.Errorf("Check(%v) = %v", c, Check(c))
					}
				}
			}
		}
	}
}

// 6.1: the chances of the example, and of codes of all kinds; the last one is 1.
func TestChance(t *testing.T) {
	for i, want := range []api.Ratio{{N: 1, D: 6}, {N: 13, D: 18}, {N: 49, D: 54}, {N: 1, D: 1}} {
		if got, e := Chance(code(1, 2, 1, 4), i+1); got != want || e != api.OK {
			t.Errorf("C(%d) = %v, %v, want %v", i+1, got, e, want)
		}
	}
	if got, e := Chance(code(1, 2, 1, 2), 1); got != (api.Ratio{N: 0, D: 1}) || e != api.OK {
		t.Errorf("C(1) where F times Eps is 1: %v, %v", got, e)
	}
	for _, c := range right() {
		for k := 1; k <= c.F; k++ {
			r := chanceByDocument(c, k)
			want := api.Ratio{N: int(r.Num().Int64()), D: int(r.Denom().Int64())}
			if got, e := Chance(c, k); got != want || e != api.OK {
				t.Errorf("Chance(%v, %d) = %v, %v, want %v", c, k, got, e, want)
			}
		}
		if got, e := Chance(c, c.F); got != (api.Ratio{N: 1, D: 1}) || e != api.OK {
			t.Errorf("%v: C(F) = %v, %v", c, got, e)
		}
	}
}

// 6.1: codes and degrees that may not be.
func TestChanceOfNothing(t *testing.T) {
	for _, c := range right() {
		for _, k := range []int{0, -1, c.F + 1, math.MaxInt, math.MinInt} {
			if got, e := Chance(c, k); got != (api.Ratio{}) || e != api.ErrArg {
				t.Errorf("Chance(%v, %d) = %v, %v", c, k, got, e)
			}
		}
	}
	for _, c := range wrong() {
		for _, k := range []int{0, 1, 2, c.F} {
			if got, e := Chance(c, k); got != (api.Ratio{}) || e != api.ErrArg {
				t.Errorf("Chance(%v, %d) = %v, %v", c, k, got, e)
			}
		}
	}
}

// 6.1: the table of the example, of the edges, and of codes of all kinds; Q has no part in it.
func TestTable(t *testing.T) {
	for _, x := range []struct {
		c    api.Code
		want []int
	}{
		{code(1, 2, 1, 4), []int{715827882, 3101920824, 3897285138, 4294967296}},
		{code(1, 2, 8, 4), []int{715827882, 3101920824, 3897285138, 4294967296}},
		{code(1, 2, 1, 2), []int{0, 4294967296}},
		{code(1, 1, 1, 2), []int{1073741824, 4294967296}},
	} {
		if got, e := Table(x.c); !slices.Equal(got, x.want) || e != api.OK {
			t.Errorf("Table(%v) = %d, %v, want %d", x.c, got, e, x.want)
		}
	}
	for _, c := range right() {
		want := tableByDocument(c)
		if got, e := Table(c); !slices.Equal(got, want) || e != api.OK {
			t.Errorf("Table(%v) = %d, %v, want %d", c, got, e, want)
		}
	}
	for _, c := range wrong() {
		if got, e := Table(c); len(got) != 0 || e != api.ErrArg {
			t.Errorf("Table(%v) = %d, %v", c, got, e)
		}
	}
}

// R3: a table is nobody else's.
func TestTableStandsAlone(t *testing.T) {
	c := code(1, 2, 1, 4)
	a, _ := Table(c)
	clear(a)
	if b, _ := Table(c); !slices.Equal(b, tableByDocument(c)) {
		t.Errorf("two answers share memory: %d", b)
	}
}

// 6.2: the first number above the word, in tables of any kind.
func TestDegree(t *testing.T) {
	for _, x := range []struct {
		table []int
		word  uint32
		want  int
	}{
		{nil, 0, 0},
		{[]int{}, math.MaxUint32, 0},
		{[]int{3}, 5, 1},
		{[]int{3}, 2, 1},
		{[]int{3, 7}, 2, 1},
		{[]int{3, 7}, 3, 2},
		{[]int{3, 7}, 6, 2},
		{[]int{3, 7}, 7, 2},
		{[]int{3, 7, 9}, 100, 3},
		{[]int{3, 3, 3}, 2, 1},
		{[]int{0, 0, 1}, 0, 3},
		{[]int{9, 3, 12}, 5, 1},
		{[]int{1, 8, 2, 9}, 5, 2},
		{[]int{1, 8, 2, 9}, 8, 4},
		{[]int{-1, math.MinInt, 0, 1}, 0, 4},
		{[]int{-5, -4}, 0, 2},
		{[]int{math.MaxUint32, 1 << 32}, math.MaxUint32, 2},
		{[]int{math.MaxUint32, 1 << 32}, math.MaxUint32 - 1, 1},
		{[]int{5, math.MaxInt}, math.MaxUint32, 2},
		{[]int{1 << 31, 1 << 32}, 1 << 31, 2},
		{[]int{1 << 31, 1 << 32}, 1<<31 - 1, 1},
	} {
		kept := slices.Clone(x.table)
		if got := Degree(x.table, x.word); got != x.want {
			t.Errorf("Degree(%d, %d) = %d, want %d", x.table, x.word, got, x.want)
		}
		if !slices.Equal(kept, x.table) {
			t.Errorf("the table is changed: %d", x.table)
		}
	}
}

// 6.3: how many auxiliary blocks there are.
func TestAux(t *testing.T) {
	for _, x := range []struct {
		c       api.Code
		n, want int
	}{
		{code(1, 2, 1, 4), 10, 3},
		{code(1, 2, 1, 4), 1, 1},
		{code(1, 1, 1, 2), 20, 11},
		{code(1, 1, 1, 2), 21, 12},
		{code(1, 1, 8, 2), 14, 62},
		{code(1, 1, 8, 2), 15, 64},
		{code(1, 1, 8, 2), 96, 64},
		{code(1, 64, 1, 64), 1, 1},
		{code(1, 64, 1, 64), 96, 1},
		{code(1, 64, 8, 64), 96, 7},
	} {
		if got, e := Aux(x.c, x.n); got != x.want || e != api.OK {
			t.Errorf("Aux(%v, %d) = %d, %v, want %d", x.c, x.n, got, e, x.want)
		}
	}
}

// auxByDocument is the least integer from 1 on that is not below 55/100 Q Eps n, or the greatest that there may be.
func auxByDocument(c api.Code, n int) int {
	share := big.NewRat(int64(55*c.Q*n), 100)
	share.Mul(share, big.NewRat(int64(c.Eps.N), int64(c.Eps.D)))
	aux := 1
	for aux < 64 && big.NewRat(int64(aux), 1).Cmp(share) < 0 {
		aux++
	}
	return aux
}

// 6.3: codes of all kinds, and numbers that may not be.
func TestAuxOfAll(t *testing.T) {
	for _, c := range right() {
		for n := 1; n <= api.MaxBlocks; n += 5 {
			if got, e := Aux(c, n); got != auxByDocument(c, n) || e != api.OK {
				t.Errorf("Aux(%v, %d) = %d, %v, want %d", c, n, got, e, auxByDocument(c, n))
			}
		}
		for _, n := range []int{0, -1, api.MaxBlocks + 1, 1 << 32, math.MaxInt, math.MinInt} {
			if got, e := Aux(c, n); got != 0 || e != api.ErrArg {
				t.Errorf("Aux(%v, %d) = %d, %v", c, n, got, e)
			}
		}
	}
	for _, c := range wrong() {
		for _, n := range []int{0, 1, 96, 97} {
			if got, e := Aux(c, n); got != 0 || e != api.ErrArg {
				t.Errorf("Aux(%v, %d) = %d, %v", c, n, got, e)
			}
		}
	}
}

// 6.4: a table rises, to 2^32.
func TestTableRises(t *testing.T) {
	for _, c := range right() {
		l, _ := Table(c)
		if len(l) != c.F || l[0] < 0 || l[len(l)-1] != 1<<32 {
			t.Errorf("the table of %v: %d", c, l)
		}
		for i := 1; i < len(l); i++ {
			if l[i] <= l[i-1] {
				t.Errorf("the table of %v does not rise at %d: %d", c, i, l)
			}
		}
	}
}

// 6.4: each word has a degree, a greater one no less one.
func TestEachWordHasADegree(t *testing.T) {
	for _, c := range right()[:40] {
		l, _ := Table(c)
		words := []uint32{0, 1, 1 << 31, math.MaxUint32 - 1, math.MaxUint32}
		for _, n := range l[:len(l)-1] {
			words = append(words, uint32(n), uint32(n+1), uint32(max(n, 1)-1))
		}
		slices.Sort(words)
		last := 1
		for _, word := range words {
			d := Degree(l, word)
			if d < last || d > c.F || l[d-1] <= int(word) || d > 1 && l[d-2] > int(word) {
				t.Errorf("%v: the degree of %d is %d, behind %d", c, word, d, last)
			}
			last = d
		}
	}
}
