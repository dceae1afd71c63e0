package inact

import (
	"math"
	"math/rand"
	"reflect"
	"slices"
	"strings"
	"testing"

	"mosaic/api"
	"mosaic/gauss"
	"mosaic/peel"
)

// upTo are the numbers below n.
func upTo(n int) []int {
	l := make([]int, n)
	for i := range l {
		l[i] = i
	}
	return l
}

// copied is a list of equations that shares no memory with it.
func copied(l []api.Eqn) []api.Eqn {
	out := make([]api.Eqn, len(l))
	for k, x := range l {
		out[k] = api.Eqn{Idx: slices.Clone(x.Idx), Data: x.Data}
	}
	return out
}

// same tells whether two lists of equations are alike; no numbers and an empty list of them are.
func same(a, b []api.Eqn) bool {
	return slices.EqualFunc(a, b, func(x, y api.Eqn) bool { return x.Data == y.Data && slices.Equal(x.Idx, y.Idx) })
}

func someBlocks(n, size int, r *rand.Rand) []string {
	l := make([]string, n)
	for i := range l {
		b := make([]byte, size)
		r.Read(b)
		l[i] = string(b)
	}
	return l
}

// shortRows have few numbers each; now and then one has none.
func shortRows(n, count, most int, r *rand.Rand) [][]int {
	rows := make([][]int, count)
	for k := range rows {
		rows[k] = slices.Sorted(slices.Values(r.Perm(n)[:r.Intn(min(n, most)+1)]))
	}
	return rows
}

// sumOf adds up blocks, byte by byte.
func sumOf(size int, blocks ...string) string {
	sum := make([]byte, size)
	for _, s := range blocks {
		for k := range sum {
			sum[k] ^= s[k]
		}
	}
	return string(sum)
}

// pick are the blocks of numbers.
func pick(blocks []string, numbers []int) []string {
	var l []string
	for _, i := range numbers {
		l = append(l, blocks[i])
	}
	return l
}

// trueEquations are what rows say of blocks.
func trueEquations(rows [][]int, blocks []string, size int) []api.Eqn {
	l := make([]api.Eqn, len(rows))
	for k, row := range rows {
		l[k] = api.Eqn{Idx: row, Data: sumOf(size, pick(blocks, row)...)}
	}
	return l
}

// someEquations are false ones, mostly: their Data are any bytes.
func someEquations(rows [][]int, size int, r *rand.Rand) []api.Eqn {
	data := someBlocks(len(rows), size, r)
	l := make([]api.Eqn, len(rows))
	for k, row := range rows {
		l[k] = api.Eqn{Idx: row, Data: data[k]}
	}
	return l
}

func isInRow(rows [][]int, i int) bool {
	for _, row := range rows {
		for _, k := range row {
			if i == k {
				return true
			}
		}
	}
	return false
}

// unknownsByDocument takes the numbers one by one: as long as peeling does not get all known that are in a row, the least of those that are not.
func unknownsByDocument(n int, rows [][]int) []int {
	var out []int
	for {
		known, _ := peel.Known(n, rows, out)
		lack := slices.DeleteFunc(upTo(n), func(i int) bool { return slices.Contains(known, i) || !isInRow(rows, i) })
		if len(lack) == 0 {
			return out
		}
		out = append(out, lack[0])
	}
}

// formByDocument is a form: the unknowns and the equations that are added up, each as often as it was.
type formByDocument struct{ unknowns, equations map[int]int }

func (f formByDocument) add(g formByDocument) {
	for i, k := range g.unknowns {
		f.unknowns[i] += k
	}
	for i, k := range g.equations {
		f.equations[i] += k
	}
}

func odd(m map[int]int) []int {
	var l []int
	for i, k := range m {
		if k%2 == 1 {
			l = append(l, i)
		}
	}
	slices.Sort(l)
	return l
}

// eqn is a form, with the equations' Data added up.
func (f formByDocument) eqn(size int, l []api.Eqn) api.Eqn {
	var data []string
	for _, k := range odd(f.equations) {
		data = append(data, l[k].Data)
	}
	return api.Eqn{Idx: odd(f.unknowns), Data: sumOf(size, data...)}
}

// splitByDocument gives forms by the first row that is ripe, as long as there is one, and then the rest.
func splitByDocument(n, size int, l []api.Eqn) (forms, rest []api.Eqn) {
	rows := make([][]int, len(l))
	for k := range l {
		rows[k] = l[k].Idx
	}
	known := unknownsByDocument(n, rows)
	all := map[int]formByDocument{}
	for _, i := range known {
		all[i] = formByDocument{map[int]int{i: 1}, map[int]int{}}
	}
	added := func(k, but int) formByDocument {
		f := formByDocument{map[int]int{}, map[int]int{k: 1}}
		for _, i := range rows[k] {
			if i != but {
				f.add(all[i])
			}
		}
		return f
	}
	used := map[int]int{}
	for {
		ripe, _ := peel.Ripe(n, rows, known)
		if len(ripe) == 0 {
			break
		}
		k := ripe[0]
		i := peel.Left(rows[k:k+1], known)[0][0]
		all[i] = added(k, i)
		known = slices.Sorted(slices.Values(append(known, i)))
		used[k]++
	}
	forms = make([]api.Eqn, n)
	for i, f := range all {
		forms[i] = f.eqn(size, l)
	}
	for k := range rows {
		if used[k] == 0 {
			rest = append(rest, added(k, -1).eqn(size, l))
		}
	}
	return forms, rest
}

// 26.1: rows that can be seen.
func TestRowsThatCanBeSeen(t *testing.T) {
	for _, x := range []struct {
		n        int
		rows     [][]int
		unknowns []int
		rest     int
	}{
		{3, [][]int{{0, 1}, {1, 2}, {0, 2}}, []int{0}, 1},
		{6, [][]int{{0, 1}, {1, 2}, {0, 2}, {3, 4}, {3}}, []int{0}, 1},
		{6, [][]int{{2, 3}, {3, 4}, {2, 4}}, []int{2}, 1}, {4, [][]int{{0, 1}, {2, 3}}, []int{0, 2}, 0}, {5, [][]int{{1, 2, 4}}, []int{1, 2}, 0},
		{4, [][]int{{0, 1}, {1, 2}, {0, 2, 3}, {3}}, []int{0}, 1}, {4, [][]int{{0, 1}, {1, 2}, {2, 3}, {3}}, nil, 0}, {4, [][]int{{0}, {0}, {0, 1}, {1}}, nil, 2},
		{3, [][]int{{}, {1}, nil, {}}, nil, 3}, {0, nil, nil, 0}, {0, [][]int{{}, {}}, nil, 2}, {160, nil, nil, 0}, {160, [][]int{{0, 159}, {63, 64}, {127, 128}}, []int{0, 63, 127}, 0},
		{160, [][]int{upTo(160)}, upTo(159), 0}, {160, slices.Repeat([][]int{upTo(160)}, 400), upTo(159), 399}, {160, make([][]int, 400), nil, 400},
	} {
		if l, e := Unknowns(x.n, x.rows); e != api.OK || !slices.Equal(l, x.unknowns) {
			t.Errorf("Unknowns(%d, %v) = %v, %v, want %v", x.n, x.rows, l, e, x.unknowns)
		}
		if u, r, e := Cost(x.n, x.rows); e != api.OK || u != len(x.unknowns) || r != x.rest {
			t.Errorf("Cost(%d, %v) = %d, %d, %v, want %d, %d", x.n, x.rows, u, r, e, len(x.unknowns), x.rest)
		}
	}
}

// 26.2, 26.3: equations that can be seen.
func TestEquationsThatCanBeSeen(t *testing.T) {
	eqn := func(data string, numbers ...int) api.Eqn { return api.Eqn{Idx: numbers, Data: data} }
	ring := []api.Eqn{eqn("\x03", 0, 1), eqn("\x06", 1, 2), eqn("\x05", 0, 2)}
	for _, x := range []struct {
		n           int
		l           []api.Eqn
		forms, rest []api.Eqn
		blocks      []string
		e           api.Errno
	}{
		{3, ring, []api.Eqn{eqn("\x00", 0), eqn("\x03", 0), eqn("\x05", 0)}, []api.Eqn{eqn("\x00")}, []string{"", "", ""}, api.OK},
		{3, append(ring[:2:2], eqn("\x04", 0, 2)), []api.Eqn{eqn("\x00", 0), eqn("\x03", 0), eqn("\x05", 0)}, []api.Eqn{eqn("\x01")}, nil, api.ErrBad},
		{3, append(ring[:2:2], eqn("\x07", 0, 1, 2)), []api.Eqn{eqn("\x00", 0), eqn("\x03", 0), eqn("\x05", 0)}, []api.Eqn{eqn("\x01", 0)}, []string{"\x01", "\x02", "\x04"}, api.OK},
		// the first ripe row makes a number known: there it is the row 0 ahead of the row 2, though that would have been ripe at once
		{4, []api.Eqn{eqn("\x01", 0, 1, 2), eqn("\x02", 1, 2), eqn("\x04", 0)}, []api.Eqn{eqn("\x03"), eqn("\x00", 1), eqn("\x02", 1), {}}, []api.Eqn{eqn("\x07")}, nil, api.ErrBad},
		{5, []api.Eqn{eqn("\x10", 3), eqn("\x30", 3, 4)}, []api.Eqn{{}, {}, {}, eqn("\x10"), eqn("\x20")}, nil, []string{"", "", "", "\x10", "\x20"}, api.OK},
		{2, []api.Eqn{eqn("\x00"), eqn("\x09", 0), eqn("\x09", 0)}, []api.Eqn{eqn("\x09"), {}}, []api.Eqn{eqn("\x00"), eqn("\x00")}, []string{"\x09", ""}, api.OK},
		{2, []api.Eqn{eqn("\x08"), eqn("\x09", 0), eqn("\x09", 0)}, []api.Eqn{eqn("\x09"), {}}, []api.Eqn{eqn("\x08"), eqn("\x00")}, nil, api.ErrBad},
		{2, []api.Eqn{eqn("\x00", 0), eqn("\x00", 1)}, []api.Eqn{eqn("\x00"), eqn("\x00")}, nil, []string{"\x00", "\x00"}, api.OK},
		{0, nil, nil, nil, nil, api.OK}, {0, []api.Eqn{eqn("\x00")}, nil, []api.Eqn{eqn("\x00")}, nil, api.OK}, {0, []api.Eqn{eqn("\x01")}, nil, []api.Eqn{eqn("\x01")}, nil, api.ErrBad}, {2, nil, []api.Eqn{{}, {}}, nil, []string{"", ""}, api.OK},
	} {
		if l, e := Forms(x.n, 1, x.l); e != api.OK || !same(l, x.forms) {
			t.Errorf("Forms(%d, 1, %v) = %v, %v, want %v", x.n, x.l, l, e, x.forms)
		}
		if l, e := Rest(x.n, 1, x.l); e != api.OK || !same(l, x.rest) {
			t.Errorf("Rest(%d, 1, %v) = %v, %v, want %v", x.n, x.l, l, e, x.rest)
		}
		if l, e := Solve(x.n, 1, x.l); e != x.e || !slices.Equal(l, x.blocks) {
			t.Errorf("Solve(%d, 1, %v) = %q, %v, want %q, %v", x.n, x.l, l, e, x.blocks, x.e)
		}
	}
}

// checkErrors asks all five for their errors.
func checkErrors(t *testing.T, n, size int, l []api.Eqn) {
	if s, e := Forms(n, size, l); e != api.ErrArg || s != nil {
		t.Errorf("Forms(%d, %d, %d equations) = %v, %v", n, size, len(l), s, e)
	}
	if s, e := Rest(n, size, l); e != api.ErrArg || s != nil {
		t.Errorf("Rest(%d, %d, %d equations) = %v, %v", n, size, len(l), s, e)
	}
	if s, e := Solve(n, size, l); e != api.ErrArg || s != nil {
		t.Errorf("Solve(%d, %d, %d equations) = %v, %v", n, size, len(l), s, e)
	}
	if _, e := gauss.Solve(n, size, l); e != api.ErrArg {
		t.Errorf("gauss.Solve(%d, %d, %d equations) answers %v", n, size, len(l), e)
	}
}

// 26.1 to 26.3: rows and equations that may not be; ErrArg comes ahead of ErrBad.
func TestErrors(t *testing.T) {
	for _, x := range []struct {
		n    int
		rows [][]int
	}{
		{2, [][]int{{2}}}, {2, [][]int{{0}, {-1}}}, {2, [][]int{{1, 0}}}, {2, [][]int{{0, 0}}}, {2, [][]int{{math.MaxInt}}}, {2, [][]int{{math.MinInt}}}, {0, [][]int{{0}}}, {160, [][]int{{160}}}, {2, make([][]int, 401)}, {2, append(make([][]int, 399), []int{2})},
		{-1, nil}, {161, nil}, {math.MinInt, nil}, {math.MaxInt, nil}, {1 << 32, [][]int{{0}}},
	} {
		if l, e := Unknowns(x.n, x.rows); e != api.ErrArg || l != nil {
			t.Errorf("Unknowns(%d, %v) = %v, %v", x.n, x.rows, l, e)
		}
		if u, r, e := Cost(x.n, x.rows); e != api.ErrArg || u != 0 || r != 0 {
			t.Errorf("Cost(%d, %v) = %d, %d, %v", x.n, x.rows, u, r, e)
		}
		var l []api.Eqn
		for _, row := range x.rows {
			l = append(l, api.Eqn{Idx: row, Data: "ab"})
		}
		checkErrors(t, x.n, 2, l)
	}
	fine := []api.Eqn{{Idx: []int{0, 1}, Data: "ab"}, {Idx: []int{1}, Data: "cd"}}
	bad := []api.Eqn{{Idx: []int{1}, Data: "ab"}, {Idx: []int{1}, Data: "cd"}}
	for _, size := range []int{0, -1, -2, 65, 66, 1 << 32, 1<<32 + 2, math.MinInt, math.MaxInt} {
		for _, l := range [][]api.Eqn{nil, {}, fine, bad, {{}}, {{Data: strings.Repeat("x", min(max(size, 0), 66))}}} {
			checkErrors(t, 2, size, l)
		}
	}
	for _, l := range [][]api.Eqn{fine, bad} {
		for _, size := range []int{1, 3, 64} {
			checkErrors(t, 2, size, l)
		}
		for _, data := range []string{"", "a", "abc"} {
			for at := range 3 {
				checkErrors(t, 2, 2, slices.Insert(slices.Clone(l), at, api.Eqn{Idx: []int{0}, Data: data}))
			}
		}
	}
	if s, e := Solve(2, 2, bad); e != api.ErrBad || s != nil {
		t.Errorf("Solve of what contradicts: %q, %v", s, e)
	}
	many := slices.Repeat(fine[:1], 401)
	checkErrors(t, 2, 2, many)
	if s, e := Solve(2, 2, many[:400]); e != api.OK || !slices.Equal(s, []string{"", ""}) {
		t.Errorf("Solve of 400 equations: %q, %v", s, e)
	}
}

// 26.1, 26.2: rows of all kinds, with Data of any bytes, held against the document's words.
func TestByDocument(t *testing.T) {
	r := rand.New(rand.NewSource(1))
	many, loose := 0, 0
	for range 1500 {
		n, size := r.Intn(13), 1+r.Intn(3)
		rows := shortRows(n, r.Intn(16), 2+r.Intn(5), r)
		l := someEquations(rows, size, r)
		kept := copied(l)
		forms, rest := splitByDocument(n, size, l)
		unknowns := unknownsByDocument(n, rows)
		if u, e := Unknowns(n, rows); e != api.OK || !slices.Equal(u, unknowns) {
			t.Fatalf("Unknowns(%d, %v) = %v, %v, want %v", n, rows, u, e, unknowns)
		}
		if u, k, e := Cost(n, rows); e != api.OK || u != len(unknowns) || k != len(rest) {
			t.Fatalf("Cost(%d, %v) = %d, %d, %v, want %d, %d", n, rows, u, k, e, len(unknowns), len(rest))
		}
		if s, e := Forms(n, size, l); e != api.OK || !same(s, forms) {
			t.Fatalf("Forms(%d, %d, %v) = %v, %v, want %v", n, size, l, s, e, forms)
		}
		if s, e := Rest(n, size, l); e != api.OK || !same(s, rest) {
			t.Fatalf("Rest(%d, %d, %v) = %v, %v, want %v", n, size, l, s, e, rest)
		}
		if !same(kept, l) {
			t.Fatalf("what is handed in is changed: %v", l)
		}
		if len(unknowns) > 1 && len(rest) > 1 {
			many++
		}
		if slices.ContainsFunc(forms, func(x api.Eqn) bool { return x.Data == "" }) {
			loose++
		}
	}
	if many < 100 || loose < 100 {
		t.Errorf("several unknowns and several of the rest were there %d times, numbers in no row %d times: take other rows", many, loose)
	}
}

// 26.1: the unknowns are what peeling needs, without what is in no row; with them it gets all others known.
func TestUnknownsAreNeeds(t *testing.T) {
	r := rand.New(rand.NewSource(2))
	for range 200 {
		n := 1 + r.Intn(160)
		rows := shortRows(n, r.Intn(200), 5, r)
		needs, _ := peel.Needs(n, rows, nil)
		want := slices.DeleteFunc(needs, func(i int) bool { return !isInRow(rows, i) })
		slices.Sort(want)
		u, e := Unknowns(n, rows)
		if e != api.OK || !slices.Equal(u, want) {
			t.Fatalf("Unknowns(%d, %v) = %v, %v, want %v", n, rows, u, e, want)
		}
		known, _ := peel.Known(n, rows, u)
		for i := range n {
			if isInRow(rows, i) != slices.Contains(known, i) {
				t.Fatalf("the number %d of %v, with %v", i, rows, u)
			}
		}
	}
}

// 26.2: of true equations forms and rest are true of the blocks.
func TestFormsAreTrue(t *testing.T) {
	r := rand.New(rand.NewSource(3))
	for range 100 {
		n, size := 1+r.Intn(160), []int{1, 5, 64}[r.Intn(3)]
		rows := shortRows(n, r.Intn(250), 2+r.Intn(8), r)
		blocks := someBlocks(n, size, r)
		l := trueEquations(rows, blocks, size)
		unknowns, _ := Unknowns(n, rows)
		forms, e := Forms(n, size, l)
		if e != api.OK || len(forms) != n {
			t.Fatalf("Forms: %d, %v", len(forms), e)
		}
		for i, x := range forms {
			if !isInRow(rows, i) {
				if x.Data != "" || len(x.Idx) != 0 {
					t.Fatalf("the form of %d, which is in no row: %v", i, x)
				}
				continue
			}
			if sumOf(size, append(pick(blocks, x.Idx), x.Data)...) != blocks[i] || !isRising(x.Idx) || slices.ContainsFunc(x.Idx, func(k int) bool { return !slices.Contains(unknowns, k) }) {
				t.Fatalf("the form of %d: %v, of the unknowns %v", i, x, unknowns)
			}
		}
		rest, e := Rest(n, size, l)
		if e != api.OK {
			t.Fatalf("Rest: %v", e)
		}
		for _, x := range rest {
			if sumOf(size, pick(blocks, x.Idx)...) != x.Data || !isRising(x.Idx) {
				t.Fatalf("of the rest: %v", x)
			}
		}
	}
}

func isRising(l []int) bool {
	return slices.IsSorted(l) && len(slices.Compact(slices.Clone(l))) == len(l)
}

// 26.3, 26.4: Solve is gauss.Solve, of equations that are true, false in some, or false in all.
func TestSolveIsGaussSolve(t *testing.T) {
	r := rand.New(rand.NewSource(4))
	whole, part, bad, fooled := 0, 0, 0, 0
	for round := range 2000 {
		n, size := r.Intn(30), 1+r.Intn(3)
		if round%20 == 0 {
			n, size = 160, 64
		}
		rows := shortRows(n, r.Intn(2*n+2), 2+r.Intn(6), r)
		l := trueEquations(rows, someBlocks(n, size, r), size)
		lies := 0
		for k := range l {
			if round%3 == 0 && r.Intn(10) == 0 || round%7 == 0 {
				l[k].Data = someBlocks(1, size, r)[0]
				lies++
			}
		}
		kept := copied(l)
		want, err := gauss.Solve(n, size, l)
		if s, e := Solve(n, size, l); e != err || !slices.Equal(s, want) || e != api.OK && s != nil {
			t.Fatalf("Solve(%d, %d, %v) = %q, %v, want %q, %v", n, size, l, s, e, want, err)
		}
		if !same(kept, l) {
			t.Fatalf("what is handed in is changed: %v", l)
		}
		switch {
		case err == api.ErrBad:
			bad++
		case lies > 0:
			fooled++
		case slices.Contains(want, ""):
			part++
		case n > 0:
			whole++
		}
	}
	if whole < 100 || part < 100 || bad < 100 || fooled < 100 {
		t.Errorf("all were solved %d times, some %d times; %d were bad, %d false, but not bad: take others", whole, part, bad, fooled)
	}
}

// 26.3: many rows of many numbers, so that nearly all are unknowns; one false bit in one that is a sum of others contradicts.
func TestSolveOfFullRows(t *testing.T) {
	r := rand.New(rand.NewSource(5))
	blocks := someBlocks(160, 64, r)
	for _, count := range []int{100, 159, 170, 400} {
		rows := make([][]int, count)
		for k := range rows {
			rows[k] = slices.DeleteFunc(upTo(160), func(int) bool { return r.Intn(2) == 0 })
		}
		l := trueEquations(rows, blocks, 64)
		want, _ := gauss.Solve(160, 64, l)
		if s, e := Solve(160, 64, l); e != api.OK || !slices.Equal(s, want) {
			t.Errorf("Solve of %d full rows: %v", count, e)
		}
		if rank, _ := gauss.Rank(160, rows); rank == count {
			continue
		}
		b := []byte(l[count-1].Data)
		b[63] ^= 0x80
		l[count-1].Data = string(b)
		if s, e := Solve(160, 64, l); e != api.ErrBad || s != nil {
			t.Errorf("Solve of %d full rows, one of them false: %v", count, e)
		}
	}
}

// 26.4: where peeling gets all known, there are no unknowns; unknowns and rest differ as numbers in rows and rows do.
func TestWhatFollows(t *testing.T) {
	r := rand.New(rand.NewSource(6))
	none := 0
	for range 500 {
		n := 1 + r.Intn(60)
		rows := shortRows(n, r.Intn(120), 1+r.Intn(4), r)
		numbers := 0
		for i := range n {
			if isInRow(rows, i) {
				numbers++
			}
		}
		u, rest, e := Cost(n, rows)
		if e != api.OK || u-rest != numbers-len(rows) {
			t.Fatalf("Cost(%d, %v) = %d, %d, %v: %d numbers, %d rows", n, rows, u, rest, e, numbers, len(rows))
		}
		known, _ := peel.Known(n, rows, nil)
		if (len(known) == numbers) != (u == 0) {
			t.Fatalf("Cost(%d, %v): %d unknowns; %d of %d numbers are known", n, rows, u, len(known), numbers)
		}
		if u == 0 {
			none++
		}
	}
	if none < 50 || none > 450 {
		t.Errorf("there were no unknowns %d times of 500: take other rows", none)
	}
}

// R3: what is answered shares no memory with what is handed in, nor two lists of one answer with one another.
func TestAnswersStandAlone(t *testing.T) {
	l := []api.Eqn{{Idx: []int{0, 1}, Data: "a"}, {Idx: []int{1, 2}, Data: "b"}, {Idx: []int{0, 1, 2}, Data: "c"}, {Idx: []int{0, 2}, Data: "d"}, {Idx: []int{3}, Data: "e"}}
	kept := copied(l)
	for _, f := range []func(int, int, []api.Eqn) ([]api.Eqn, api.Errno){Forms, Rest} {
		first, _ := f(4, 1, l)
		want := copied(first)
		for k := range first {
			_ = append(first[k].Idx, -1)
			for i := range first[k].Idx {
				first[k].Idx[i] = -1
			}
			if !same(first[k+1:], want[k+1:]) {
				t.Errorf("the list %d shares memory with another one", k)
			}
		}
		if again, _ := f(4, 1, l); !same(again, want) {
			t.Errorf("asked again: %v, and was %v", again, want)
		}
	}
	rows := [][]int{{0, 1}, {1, 2}}
	u, _ := Unknowns(3, rows)
	for i := range u {
		u[i] = -1
	}
	if !same(kept, l) || !reflect.DeepEqual(rows, [][]int{{0, 1}, {1, 2}}) {
		t.Errorf("what is handed in is changed: %v, %v", l, rows)
	}
}
