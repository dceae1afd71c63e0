package gauss

import (
	"fmt"
	"math"
	"math/big"
	"math/rand"
	"slices"
	"strings"
	"testing"

	"mosaic/api"
)

// same tells whether two lists of rows are alike; nil and empty ones are.
func same(a, b [][]int) bool {
	return slices.EqualFunc(a, b, slices.Equal)
}

// copied is a list of rows that shares no memory with it.
func copied(rows [][]int) [][]int {
	out := make([][]int, len(rows))
	for k, l := range rows {
		out[k] = slices.Clone(l)
	}
	return out
}

// begin is how a list that may be long begins.
func begin(rows [][]int) string {
	s := fmt.Sprint(rows)
	return s[:min(len(s), 80)]
}

// someRow has each number below n with the chance of part by 100.
func someRow(n, part int, r *rand.Rand) []int {
	var l []int
	for i := range n {
		if r.Intn(100) < part {
			l = append(l, i)
		}
	}
	return l
}

func someRows(n, count, part int, r *rand.Rand) [][]int {
	rows := make([][]int, count)
	for k := range rows {
		rows[k] = someRow(n, part, r)
	}
	return rows
}

func someBlocks(n, size int, r *rand.Rand) []string {
	l := make([]string, n)
	for i := range l {
		b := make([]byte, size)
		r.Read(b)
		l[i] = string(b)
	}
	return l
}

// sumOf adds up blocks, byte by byte.
func sumOf(blocks []string, numbers []int, size int) string {
	sum := make([]byte, size)
	for _, i := range numbers {
		for k := range sum {
			sum[k] ^= blocks[i][k]
		}
	}
	return string(sum)
}

// trueEquations are what rows say of blocks.
func trueEquations(rows [][]int, blocks []string, size int) []api.Eqn {
	l := make([]api.Eqn, len(rows))
	for k, row := range rows {
		l[k] = api.Eqn{Idx: row, Data: sumOf(blocks, row, size)}
	}
	return l
}

// mask is a row as a number.
func mask(row []int) int {
	m := 0
	for _, i := range row {
		m += 1 << i
	}
	return m
}

// sums are all sums of few rows, as numbers, and how each subset's Data add up (the first one that is found); bad, if two of one sum have unlike Data.
func sums(l []api.Eqn, size int) (all map[int]string, bad bool) {
	all = map[int]string{0: strings.Repeat("\x00", size)}
	for _, x := range l {
		more := map[int]string{}
		for m, data := range all {
			more[m^mask(x.Idx)] = sumOf([]string{data, x.Data}, []int{0, 1}, size)
		}
		for m, data := range more {
			if old, is := all[m]; is && old != data {
				bad = true
			}
			all[m] = data
		}
	}
	return all, bad
}

// reducedByDocument looks among all sums: a first number is the least number of some sum; its row is the sum that has it and no other first number.
func reducedByDocument(n int, all map[int]string) [][]int {
	firsts := 0
	for m := range all {
		firsts |= m & -m
	}
	var rows [][]int
	for i := range n {
		for m := range all {
			if firsts>>i&1 == 0 || m&firsts != 1<<i {
				continue
			}
			var row []int
			for j := range n {
				if m>>j&1 == 1 {
					row = append(row, j)
				}
			}
			rows = append(rows, row)
		}
	}
	return rows
}

// equationsOf are rows without any Data.
func equationsOf(rows [][]int) []api.Eqn {
	return trueEquations(rows, slices.Repeat([]string{""}, api.MaxAll), 0)
}

// rankByDocument takes rows in, one by one, and counts those that are no sum of the others.
func rankByDocument(rows [][]int) int {
	var basis []*big.Int
	for _, row := range rows {
		x := new(big.Int)
		for _, i := range row {
			x.SetBit(x, i, 1)
		}
		for _, b := range basis { // they fall by their highest bits
			if x.Bit(b.BitLen()-1) == 1 {
				x.Xor(x, b)
			}
		}
		if x.Sign() != 0 {
			basis = append(basis, x)
			slices.SortFunc(basis, func(a, b *big.Int) int { return b.BitLen() - a.BitLen() })
		}
	}
	return len(basis)
}

// 12.1: which rows may be.
func TestMay(t *testing.T) {
	up := func(from, to int) []int {
		var l []int
		for i := from; i < to; i++ {
			l = append(l, i)
		}
		return l
	}
	for _, x := range []struct {
		n    int
		rows [][]int
		want bool
	}{
		{0, nil, true}, {0, [][]int{}, true}, {0, [][]int{nil, {}}, true}, {0, [][]int{{0}}, false}, {0, [][]int{{-1}}, false},
		{1, [][]int{{0}}, true}, {1, [][]int{{1}}, false}, {1, [][]int{{0, 0}}, false}, {1, [][]int{{0}, {0}, {}}, true}, {1, [][]int{{0}, {-1}}, false},
		{4, [][]int{{0, 1, 2, 3}}, true}, {4, [][]int{{0, 1, 2, 3, 4}}, false}, {4, [][]int{{4}}, false}, {4, [][]int{{0, 4}}, false}, {4, [][]int{{-1, 0}}, false},
		{4, [][]int{{1, 0}}, false}, {4, [][]int{{0, 2, 1}}, false}, {4, [][]int{{1, 1}}, false}, {4, [][]int{{0, 1, 1, 2}}, false}, {4, [][]int{{3, 2, 1, 0}}, false},
		{4, [][]int{{math.MinInt}}, false}, {4, [][]int{{math.MaxInt}}, false}, {4, [][]int{{0, math.MaxInt}}, false}, {4, [][]int{{math.MinInt, 0}}, false}, {4, [][]int{{1 << 32}}, false}, {4, [][]int{{1<<32 + 1}}, false},
		{160, [][]int{up(0, 160), {159}, {0, 159}, {63, 64, 127, 128}}, true}, {160, [][]int{up(0, 161)}, false}, {160, [][]int{{160}}, false}, {159, [][]int{{159}}, false}, {64, [][]int{{64}}, false}, {128, [][]int{{128}}, false},
		{161, nil, false}, {161, [][]int{{0}}, false}, {-1, nil, false}, {-1, [][]int{{-1}}, false}, {-1, [][]int{{}}, false}, {math.MinInt, nil, false}, {math.MaxInt, nil, false}, {1 << 32, nil, false}, {1<<32 + 4, [][]int{{1}}, false},
		{4, make([][]int, 400), true}, {4, make([][]int, 401), false}, {160, slices.Repeat([][]int{up(0, 160)}, 400), true}, {160, slices.Repeat([][]int{up(0, 160)}, 401), false}, {4, make([][]int, 100000), false},
		{4, append(make([][]int, 399), []int{4}), false}, {4, append(make([][]int, 399), []int{3}), true}, {4, [][]int{make([]int, 100000)}, false},
	} {
		if May(x.n, x.rows) != x.want {
			t.Errorf("May(%d, %d rows, %s) = %v", x.n, len(x.rows), begin(x.rows), !x.want)
		}
		kept := copied(x.rows)
		checkErrors(t, x.n, x.rows, x.want)
		if !same(kept, x.rows) {
			t.Errorf("the rows are changed: %v", x.rows)
		}
	}
}

// checkErrors asks the three that take rows, and the one that takes equations, whether they may be.
func checkErrors(t *testing.T, n int, rows [][]int, may bool) {
	want := api.ErrArg
	if may {
		want = api.OK
	}
	if l, e := Reduce(n, rows); e != want || !may && l != nil {
		t.Errorf("Reduce(%d, %s) = %v, %v", n, begin(rows), l, e)
	}
	if k, e := Rank(n, rows); e != want || !may && k != 0 {
		t.Errorf("Rank(%d, %s) = %d, %v", n, begin(rows), k, e)
	}
	if l, e := Fixed(n, rows); e != want || !may && l != nil {
		t.Errorf("Fixed(%d, %s) = %v, %v", n, begin(rows), l, e)
	}
	l := make([]api.Eqn, len(rows))
	for k, row := range rows {
		l[k] = api.Eqn{Idx: row, Data: "\x00\x00"}
	}
	if s, e := Solve(n, 2, l); e != want || !may && s != nil || may && len(s) != n {
		t.Errorf("Solve(%d, %s) = %q, %v", n, begin(rows), s, e)
	}
}

// 12.1: the example, and others that can be seen.
func TestRowsThatCanBeSeen(t *testing.T) {
	for _, x := range []struct {
		n     int
		rows  [][]int
		want  [][]int
		fixed []int
	}{
		{4, [][]int{{0, 1}, {1, 2}, {0, 2, 3}}, [][]int{{0, 2}, {1, 2}, {3}}, []int{3}},
		{4, [][]int{{0, 1}, {1, 2}, {0, 2, 3}, {0, 1, 2, 3}}, [][]int{{0}, {1}, {2}, {3}}, []int{0, 1, 2, 3}},
		{3, [][]int{{0, 1}, {1, 2}, {0, 2}}, [][]int{{0, 2}, {1, 2}}, nil},
		{0, nil, nil, nil}, {0, [][]int{{}, nil}, nil, nil}, {160, nil, nil, nil}, {5, [][]int{{}, {}}, nil, nil},
		{5, [][]int{{2, 4}, {2, 4}}, [][]int{{2, 4}}, nil}, {5, [][]int{{2, 4}, {}, {2}}, [][]int{{2}, {4}}, []int{2, 4}},
		{5, [][]int{{4}, {3}, {2}, {1}, {0}}, [][]int{{0}, {1}, {2}, {3}, {4}}, []int{0, 1, 2, 3, 4}},
		{160, [][]int{{0, 159}, {159}}, [][]int{{0}, {159}}, []int{0, 159}},
		{160, [][]int{{63, 64}, {127, 128}, {64, 127}, {128}}, [][]int{{63}, {64}, {127}, {128}}, []int{63, 64, 127, 128}},
		{160, [][]int{{0, 64, 128}, {64, 128}, {1, 65, 129}}, [][]int{{0}, {1, 65, 129}, {64, 128}}, []int{0}},
	} {
		if l, e := Reduce(x.n, x.rows); e != api.OK || !same(l, x.want) {
			t.Errorf("Reduce(%d, %v) = %v, %v, want %v", x.n, x.rows, l, e, x.want)
		}
		if k, e := Rank(x.n, x.rows); e != api.OK || k != len(x.want) {
			t.Errorf("Rank(%d, %v) = %d, %v, want %d", x.n, x.rows, k, e, len(x.want))
		}
		if l, e := Fixed(x.n, x.rows); e != api.OK || !slices.Equal(l, x.fixed) {
			t.Errorf("Fixed(%d, %v) = %v, %v, want %v", x.n, x.rows, l, e, x.fixed)
		}
	}
}

// 12.1, 12.3: few numbers, all kinds of rows: what stands among all their sums; in any order.
func TestRowsBySums(t *testing.T) {
	r := rand.New(rand.NewSource(1))
	whole, part, none := 0, 0, 0
	for round := range 600 {
		n := round % 8
		rows := someRows(n, r.Intn(10), 15+r.Intn(60), r)
		all, _ := sums(equationsOf(rows), 0)
		want := reducedByDocument(n, all)
		var fixed []int
		for i := range n {
			if _, is := all[1<<i]; is {
				fixed = append(fixed, i)
			}
		}
		for range 3 {
			kept := copied(rows)
			if l, e := Reduce(n, rows); e != api.OK || !same(l, want) {
				t.Fatalf("Reduce(%d, %v) = %v, %v, want %v", n, rows, l, e, want)
			}
			if k, e := Rank(n, rows); e != api.OK || 1<<k != len(all) {
				t.Fatalf("Rank(%d, %v) = %d, %v, of %d sums", n, rows, k, e, len(all))
			}
			if l, e := Fixed(n, rows); e != api.OK || !slices.Equal(l, fixed) {
				t.Fatalf("Fixed(%d, %v) = %v, %v, want %v", n, rows, l, e, fixed)
			}
			if !same(kept, rows) {
				t.Fatalf("the rows are changed: %v, and were %v", rows, kept)
			}
			r.Shuffle(len(rows), func(i, j int) { rows[i], rows[j] = rows[j], rows[i] })
		}
		switch {
		case len(fixed) == n:
			whole++
		case len(fixed) > 0:
			part++
		default:
			none++
		}
	}
	if whole < 50 || part < 50 || none < 50 {
		t.Errorf("all were fixed %d times, some %d, none %d: take other rows", whole, part, none)
	}
}

// isReduced tells whether rows stand by their first numbers, and no first number is in another one.
func isReduced(rows [][]int) bool {
	firsts := map[int]int{}
	for k, row := range rows {
		if len(row) == 0 || k > 0 && row[0] <= rows[k-1][0] {
			return false
		}
		firsts[row[0]] = k
	}
	for k, row := range rows {
		for _, i := range row {
			if at, is := firsts[i]; is && at != k {
				return false
			}
		}
	}
	return true
}

// 12.1: many numbers, many rows, up to the greatest: reduced rows are of that form, and have the same sums.
func TestManyRows(t *testing.T) {
	r := rand.New(rand.NewSource(2))
	for _, x := range []struct{ n, count, part int }{{160, 400, 50}, {160, 400, 1}, {160, 400, 2}, {160, 160, 50}, {160, 159, 3}, {160, 80, 10}, {129, 140, 2}, {128, 128, 2}, {65, 60, 5}, {64, 70, 4}, {63, 63, 50}, {160, 1, 100}, {160, 400, 100}} {
		rows := someRows(x.n, x.count, x.part, r)
		l, e := Reduce(x.n, rows)
		rank := rankByDocument(rows)
		if e != api.OK || !isReduced(l) || !May(x.n, l) {
			t.Fatalf("Reduce of %v: %v, %v", x, l, e)
		}
		if k, e := Rank(x.n, rows); e != api.OK || k != rank || k != len(l) {
			t.Errorf("Rank of %v: %d, %v, want %d; %d rows are left", x, k, e, rank, len(l))
		}
		if rankByDocument(slices.Concat(rows, l)) != rank || rankByDocument(l) != rank {
			t.Errorf("%v: the reduced rows have other sums", x)
		}
		var fixed []int
		for i := range x.n {
			if rankByDocument(slices.Concat(l, [][]int{{i}})) == rank {
				fixed = append(fixed, i)
			}
		}
		if got, e := Fixed(x.n, rows); e != api.OK || !slices.Equal(got, fixed) {
			t.Errorf("Fixed of %v: %v, %v, want %v", x, got, e, fixed)
		}
		r.Shuffle(len(rows), func(i, j int) { rows[i], rows[j] = rows[j], rows[i] })
		if again, _ := Reduce(x.n, rows); !same(again, l) {
			t.Errorf("Reduce of %v in another order: %v, and was %v", x, again, l)
		}
		if again, _ := Reduce(x.n, l); !same(again, l) {
			t.Errorf("Reduce of reduced rows: %v, and was %v", again, l)
		}
	}
}

// R3: what is reduced shares no memory with the rows, nor two of its rows with one another.
func TestReducedRowsStandAlone(t *testing.T) {
	rows := [][]int{{0, 1}, {2}, {3, 4}}
	kept := copied(rows)
	l, _ := Reduce(5, rows)
	for k := range l {
		_ = append(l[k], -1)
		for i := range l[k] {
			l[k][i] = -1
		}
		for j := k + 1; j < len(l); j++ {
			if !slices.Equal(l[j], kept[j]) {
				t.Errorf("rows %d and %d share memory", k, j)
			}
		}
	}
	if !same(rows, kept) {
		t.Errorf("the answer shares memory with the rows: %v", rows)
	}
	if again, _ := Reduce(5, rows); !same(again, kept) {
		t.Errorf("Reduce afterwards: %v", again)
	}
}

// 12.2: equations that can be seen.
func TestSolveThatCanBeSeen(t *testing.T) {
	eqn := func(data string, numbers ...int) api.Eqn { return api.Eqn{Idx: numbers, Data: data} }
	for _, x := range []struct {
		n, size int
		l       []api.Eqn
		want    []string
		e       api.Errno
	}{
		{4, 1, []api.Eqn{eqn("\x03", 0, 1), eqn("\x01", 1), eqn("\x0f", 0, 2, 3), eqn("\x02", 0)}, []string{"\x02", "\x01", "", ""}, api.OK},
		{4, 1, []api.Eqn{eqn("\x03", 0, 1), eqn("\x01", 1), eqn("\x0f", 0, 2, 3), eqn("\x07", 0)}, nil, api.ErrBad},
		{4, 1, []api.Eqn{eqn("\x03", 0, 1), eqn("\x05", 1, 2), eqn("\x0e", 0, 2, 3)}, []string{"", "", "", "\x08"}, api.OK},
		{3, 2, []api.Eqn{eqn("ab", 0, 1), eqn("cd", 1, 2), eqn("\x02\x06", 0, 2)}, []string{"", "", ""}, api.OK},
		{3, 2, []api.Eqn{eqn("ab", 0, 1), eqn("cd", 1, 2), eqn("\x02\x07", 0, 2)}, nil, api.ErrBad},
		{0, 1, nil, nil, api.OK}, {0, 64, []api.Eqn{}, nil, api.OK}, {2, 1, nil, []string{"", ""}, api.OK},
		{0, 1, []api.Eqn{eqn("\x00")}, nil, api.OK}, {0, 1, []api.Eqn{eqn("\x01")}, nil, api.ErrBad},
		{2, 2, []api.Eqn{eqn("\x00\x00"), eqn("ab", 1)}, []string{"", "ab"}, api.OK}, {2, 2, []api.Eqn{eqn("ab", 1), eqn("\x00\x80")}, nil, api.ErrBad},
		{2, 2, []api.Eqn{eqn("ab", 1), eqn("ab", 1), eqn("ab", 1)}, []string{"", "ab"}, api.OK}, {2, 2, []api.Eqn{eqn("ab", 1), eqn("ab", 1), eqn("ac", 1)}, nil, api.ErrBad},
		{2, 2, []api.Eqn{eqn("\x00\x00", 0, 1), eqn("\x00\x00", 1)}, []string{"\x00\x00", "\x00\x00"}, api.OK},
	} {
		if s, e := Solve(x.n, x.size, x.l); e != x.e || !slices.Equal(s, x.want) || e != api.OK && s != nil {
			t.Errorf("Solve(%d, %d, %v) = %q, %v, want %q, %v", x.n, x.size, x.l, s, e, x.want, x.e)
		}
	}
}

// 12.2: few numbers, true equations and false ones: what stands among all sums.
func TestSolveBySums(t *testing.T) {
	r := rand.New(rand.NewSource(3))
	solved, bad, fooled := 0, 0, 0
	for round := range 900 {
		n, size := round%8, 1+r.Intn(3)
		rows := someRows(n, r.Intn(9), 15+r.Intn(60), r)
		blocks := someBlocks(n, size, r)
		l := trueEquations(rows, blocks, size)
		for k := range l {
			if round%3 == 0 && r.Intn(4) == 0 {
				l[k].Data = someBlocks(1, size, r)[0]
			}
		}
		all, contradict := sums(l, size)
		want, err := make([]string, n), api.OK
		for i := range n {
			want[i] = all[1<<i]
		}
		if contradict {
			want, err = nil, api.ErrBad
		}
		kept := copied(rows)
		if s, e := Solve(n, size, l); e != err || !slices.Equal(s, want) || e != api.OK && s != nil {
			t.Fatalf("Solve(%d, %d, %v) = %q, %v, want %q, %v", n, size, l, s, e, want, err)
		}
		if !same(kept, rows) {
			t.Fatalf("the equations are changed: %v, and were %v", rows, kept)
		}
		switch {
		case contradict:
			bad++
		case round%3 == 0:
			fooled++
		default:
			solved++
		}
	}
	if solved < 100 || bad < 50 || fooled < 50 {
		t.Errorf("%d were solved, %d were bad, %d were neither: take others", solved, bad, fooled)
	}
}

// 12.2, 12.3: many true equations, of all sizes, in any order: they don't contradict, and what is fixed solves to those blocks.
func TestSolveTrueEquations(t *testing.T) {
	r := rand.New(rand.NewSource(4))
	for k, x := range []struct{ n, count, part int }{{160, 400, 50}, {160, 400, 2}, {160, 300, 1}, {160, 160, 50}, {160, 150, 2}, {100, 120, 3}, {65, 60, 4}, {64, 64, 50}, {1, 400, 50}, {0, 400, 50}} {
		size := []int{64, 1, 2, 63, 33}[k%5]
		blocks := someBlocks(x.n, size, r)
		rows := someRows(x.n, x.count, x.part, r)
		fixed, _ := Fixed(x.n, rows)
		want := make([]string, x.n)
		for _, i := range fixed {
			want[i] = blocks[i]
		}
		l := trueEquations(rows, blocks, size)
		for range 2 {
			if s, e := Solve(x.n, size, l); e != api.OK || !slices.Equal(s, want) {
				t.Errorf("Solve of %v: %v, %d fixed", x, e, len(fixed))
			}
			r.Shuffle(len(l), func(i, j int) { l[i], l[j] = l[j], l[i] })
		}
	}
}

// 12.2: where rows are more than their rank, one false bit in one that is a sum of others contradicts, wherever it is.
func TestSolveFindsOneFalseBit(t *testing.T) {
	r := rand.New(rand.NewSource(5))
	blocks := someBlocks(160, 64, r)
	rows := someRows(160, 200, 50, r)
	if k, _ := Rank(160, rows); k != 160 {
		t.Fatalf("the rank is %d: take other rows", k)
	}
	for round := range 40 {
		l := trueEquations(append(rows[:199:199], rows[round]), blocks, 64)
		b := []byte(l[199].Data)
		bit := []int{0, 511, round * 12}[round%3]
		b[bit/8] ^= 1 << (bit % 8)
		l[199].Data = string(b)
		if s, e := Solve(160, 64, l); e != api.ErrBad || s != nil {
			t.Errorf("the bit %d of %v: %v", bit, l[199].Idx, e)
		}
	}
}

// 12.2: which equations may not be: their rows, their Data, the size, also where there are none; ErrArg comes ahead of ErrBad.
func TestSolveErrors(t *testing.T) {
	fine := []api.Eqn{{Idx: []int{0, 1}, Data: "ab"}, {Idx: []int{1}, Data: "cd"}}
	bad := []api.Eqn{{Idx: []int{1}, Data: "ab"}, {Idx: []int{1}, Data: "cd"}}
	for _, size := range []int{0, -1, -2, 65, 66, 1 << 32, 1<<32 + 2, math.MinInt, math.MaxInt} {
		for _, l := range [][]api.Eqn{nil, {}, fine, {{}}, {{Data: strings.Repeat("x", min(max(size, 0), 66))}}} {
			if s, e := Solve(2, size, l); e != api.ErrArg || s != nil {
				t.Errorf("Solve(2, %d, %v) = %q, %v", size, l, s, e)
			}
		}
	}
	for _, l := range [][]api.Eqn{fine, bad} {
		for _, size := range []int{1, 3, 64} {
			if s, e := Solve(2, size, l); e != api.ErrArg || s != nil {
				t.Errorf("Solve(2, %d, %v) = %q, %v", size, l, s, e)
			}
		}
		for _, x := range []api.Eqn{{Idx: []int{0}}, {Idx: []int{0}, Data: "a"}, {Idx: []int{0}, Data: "abc"}, {Data: ""}, {Idx: []int{2}, Data: "ab"}, {Idx: []int{-1}, Data: "ab"}, {Idx: []int{1, 0}, Data: "ab"}, {Idx: []int{0, 0}, Data: "ab"}, {Idx: []int{math.MaxInt}, Data: "ab"}} {
			for at := range 3 {
				if s, e := Solve(2, 2, slices.Insert(slices.Clone(l), at, x)); e != api.ErrArg || s != nil {
					t.Errorf("Solve with %v: %q, %v", x, s, e)
				}
			}
		}
		for _, n := range []int{1, 0, -1, 161, math.MinInt, math.MaxInt} {
			if s, e := Solve(n, 2, l); e != api.ErrArg || s != nil {
				t.Errorf("Solve(%d, 2, %v) = %q, %v", n, l, s, e)
			}
		}
	}
	many := slices.Repeat(fine[:1], 401)
	if s, e := Solve(2, 2, many); e != api.ErrArg || s != nil {
		t.Errorf("Solve of 401 equations: %q, %v", s, e)
	}
	if s, e := Solve(2, 2, many[:400]); e != api.OK || len(s) != 2 {
		t.Errorf("Solve of 400 equations: %q, %v", s, e)
	}
	if s, e := Solve(2, 2, fine); e != api.OK || !slices.Equal(s, []string{"\x02\x06", "cd"}) {
		t.Errorf("Solve of what may be: %q, %v", s, e)
	}
}

// 12.3: more rows fix no less, and what was fixed has the block that it had.
func TestMoreRowsFixNoLess(t *testing.T) {
	r := rand.New(rand.NewSource(6))
	blocks := someBlocks(60, 5, r)
	l := trueEquations(someRows(60, 120, 3, r), blocks, 5)
	before, steps := make([]string, 60), 0
	for k := range l {
		s, e := Solve(60, 5, l[:k+1])
		if e != api.OK {
			t.Fatalf("%d equations: %v", k+1, e)
		}
		for i := range s {
			if before[i] != "" && s[i] != before[i] {
				t.Errorf("%d equations: the block %d is %x, and was %x", k+1, i, s[i], before[i])
			}
		}
		if !slices.Equal(s, before) {
			steps++
		}
		before = s
	}
	if steps < 10 {
		t.Errorf("something got fixed only %d times: take other rows", steps)
	}
}
