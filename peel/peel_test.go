package peel

import (
	"fmt"
	"math"
	"math/rand"
	"reflect"
	"slices"
	"testing"

	"mosaic/api"
	"mosaic/gauss"
)

// same tells whether two lists of rows are alike; nil and empty ones are.
func same(a, b [][]int) bool {
	return slices.EqualFunc(a, b, slices.Equal)
}

// copied is a list of rows that shares no memory with it.
func copied(rows [][]int) [][]int {
	out := make([][]int, len(rows))
	for k, l := range rows {
		out[k] = slices.Clone(l)
	}
	return out
}

// begin is how a list that may be long begins.
func begin(rows [][]int) string {
	s := fmt.Sprint(rows)
	return s[:min(len(s), 80)]
}

// upTo are the numbers below n.
func upTo(n int) []int {
	l := make([]int, n)
	for i := range l {
		l[i] = i
	}
	return l
}

// someRow has each number below n with the chance of part by 100.
func someRow(n, part int, r *rand.Rand) []int {
	var l []int
	for i := range n {
		if r.Intn(100) < part {
			l = append(l, i)
		}
	}
	return l
}

func someRows(n, count, part int, r *rand.Rand) [][]int {
	rows := make([][]int, count)
	for k := range rows {
		rows[k] = someRow(n, part, r)
	}
	return rows
}

// shortRows have few numbers each, so that many of them get ripe.
func shortRows(n, count, most int, r *rand.Rand) [][]int {
	rows := make([][]int, count)
	for k := range rows {
		rows[k] = slices.Sorted(slices.Values(r.Perm(n)[:r.Intn(min(n, most)+1)]))
	}
	return rows
}

// unknownOf are a row's numbers that are not known.
func unknownOf(row []int, known map[int]int) []int {
	var l []int
	for _, i := range row {
		if known[i] == 0 {
			l = append(l, i)
		}
	}
	return l
}

func ripeByDocument(rows [][]int, known map[int]int) []int {
	var l []int
	for k, row := range rows {
		if len(unknownOf(row, known)) == 1 {
			l = append(l, k)
		}
	}
	return l
}

// stepsByDocument looks for all ripe rows ahead of each step, and takes the first; what is known grows.
func stepsByDocument(rows [][]int, known map[int]int) []api.Step {
	var steps []api.Step
	for {
		ripe := ripeByDocument(rows, known)
		if len(ripe) == 0 {
			return steps
		}
		i := unknownOf(rows[ripe[0]], known)[0]
		steps = append(steps, api.Step{Row: ripe[0], Num: i})
		known[i]++
	}
}

// needsByDocument tells one number, and begins anew with all that were told.
func needsByDocument(n int, rows [][]int, known []int) []int {
	var told []int
	for {
		k := setOf(slices.Concat(known, told))
		stepsByDocument(rows, k)
		lack := unknownOf(upTo(n), k)
		if len(lack) == 0 {
			return told
		}
		next := lack[0]
		for _, i := range slices.Backward(lack) {
			if !slices.ContainsFunc(rows, func(row []int) bool { return slices.Contains(row, i) }) {
				next = i
			}
		}
		told = append(told, next)
	}
}

func setOf(numbers []int) map[int]int {
	m := map[int]int{}
	for _, i := range numbers {
		m[i]++
	}
	return m
}

func listOf(set map[int]int) []int {
	var l []int
	for i := range set {
		if set[i] > 0 {
			l = append(l, i)
		}
	}
	slices.Sort(l)
	return l
}

// 13.1, 13.2: the example, and others that can be seen.
func TestRowsThatCanBeSeen(t *testing.T) {
	step := func(l ...int) []api.Step {
		var s []api.Step
		for k := 0; k < len(l); k += 2 {
			s = append(s, api.Step{Row: l[k], Num: l[k+1]})
		}
		return s
	}
	chain := [][]int{{0, 1}, {1, 2}, {0, 2, 3}}
	for _, x := range []struct {
		n     int
		rows  [][]int
		known []int
		steps []api.Step
		ripe  []int
		out   []int
		needs []int
	}{
		{4, chain, []int{0}, step(0, 1, 1, 2, 2, 3), []int{0}, upTo(4), nil},
		{4, chain, nil, nil, nil, nil, []int{0}},
		{4, chain, []int{3}, nil, nil, []int{3}, []int{0}},
		{4, chain, []int{2, 3}, step(1, 1, 0, 0), []int{1, 2}, upTo(4), nil},
		{4, chain, upTo(4), nil, nil, upTo(4), nil},
		{6, append(copied(chain), []int{5}), nil, step(3, 5), []int{3}, []int{5}, []int{4, 0}},
		{6, append(copied(chain), []int{5}), []int{4}, step(3, 5), []int{3}, []int{4, 5}, []int{0}},
		{6, append(copied(chain), []int{5}), []int{0, 5}, step(0, 1, 1, 2, 2, 3), []int{0}, []int{0, 1, 2, 3, 5}, []int{4}},
		// a row ahead gets ripe by one behind it, and is taken ahead of those that were ripe already
		{5, [][]int{{0, 1}, {2, 3}, {0}, {2}, {4}}, nil, step(2, 0, 0, 1, 3, 2, 1, 3, 4, 4), []int{2, 3, 4}, upTo(5), nil},
		// two rows are ripe for one number: the first makes it known, the other is ripe no more
		{3, [][]int{{1}, {1}, {0, 1}, {0}}, nil, step(0, 1, 2, 0), []int{0, 1, 3}, []int{0, 1}, []int{2}},
		{3, [][]int{{}, nil, {2}, {}}, nil, step(2, 2), []int{2}, []int{2}, []int{0, 1}},
		{5, [][]int{{1, 3}}, nil, nil, nil, nil, []int{0, 2, 4, 1}},
		{5, [][]int{{1, 3}, {0, 1, 3}}, nil, nil, nil, nil, []int{2, 4, 0, 1}},
		{0, nil, nil, nil, nil, nil, nil}, {0, [][]int{{}, nil}, []int{}, nil, nil, nil, nil}, {3, nil, nil, nil, nil, nil, upTo(3)}, {3, [][]int{}, []int{1}, nil, nil, []int{1}, []int{0, 2}},
		{160, [][]int{{0, 63, 64, 127, 128, 159}}, []int{0, 63, 64, 127, 128}, step(0, 159), []int{0}, []int{0, 63, 64, 127, 128, 159}, slices.DeleteFunc(upTo(160), func(i int) bool { return slices.Contains([]int{0, 63, 64, 127, 128, 159}, i) })},
	} {
		if l, e := Steps(x.n, x.rows, x.known); e != api.OK || !slices.Equal(l, x.steps) {
			t.Errorf("Steps(%d, %v, %v) = %v, %v, want %v", x.n, x.rows, x.known, l, e, x.steps)
		}
		if l, e := Known(x.n, x.rows, x.known); e != api.OK || !slices.Equal(l, x.out) {
			t.Errorf("Known(%d, %v, %v) = %v, %v, want %v", x.n, x.rows, x.known, l, e, x.out)
		}
		if l, e := Ripe(x.n, x.rows, x.known); e != api.OK || !slices.Equal(l, x.ripe) {
			t.Errorf("Ripe(%d, %v, %v) = %v, %v, want %v", x.n, x.rows, x.known, l, e, x.ripe)
		}
		if l, e := Needs(x.n, x.rows, x.known); e != api.OK || !slices.Equal(l, x.needs) {
			t.Errorf("Needs(%d, %v, %v) = %v, %v, want %v", x.n, x.rows, x.known, l, e, x.needs)
		}
	}
}

// checkErrors asks the four that may answer an error whether they do.
func checkErrors(t *testing.T, n int, rows [][]int, known []int, want api.Errno) {
	bad := want != api.OK
	if l, e := Steps(n, rows, known); e != want || bad && l != nil {
		t.Errorf("Steps(%d, %d rows %s, %v) = %v, %v", n, len(rows), begin(rows), known, l, e)
	}
	if l, e := Known(n, rows, known); e != want || bad && l != nil {
		t.Errorf("Known(%d, %d rows %s, %v) = %v, %v", n, len(rows), begin(rows), known, l, e)
	}
	if l, e := Ripe(n, rows, known); e != want || bad && l != nil {
		t.Errorf("Ripe(%d, %d rows %s, %v) = %v, %v", n, len(rows), begin(rows), known, l, e)
	}
	if l, e := Needs(n, rows, known); e != want || bad && l != nil {
		t.Errorf("Needs(%d, %d rows %s, %v) = %v, %v", n, len(rows), begin(rows), known, l, e)
	}
}

// 13.1: rows that may not be, and what is known that is no row.
func TestErrors(t *testing.T) {
	fine := [][]int{{0, 1}, {}, {3}}
	for _, x := range []struct {
		n     int
		rows  [][]int
		known []int
		want  api.Errno
	}{
		{4, fine, nil, api.OK}, {4, fine, []int{}, api.OK}, {4, fine, upTo(4), api.OK}, {0, nil, nil, api.OK}, {160, nil, upTo(160), api.OK}, {160, [][]int{upTo(160)}, upTo(159), api.OK},
		{3, fine, nil, api.ErrArg}, {4, [][]int{{0}, {1, 0}}, nil, api.ErrArg}, {4, [][]int{{1, 1}}, nil, api.ErrArg}, {4, [][]int{{-1}}, nil, api.ErrArg}, {4, [][]int{{math.MaxInt}}, nil, api.ErrArg}, {4, [][]int{{math.MinInt}}, nil, api.ErrArg}, {4, [][]int{{1 << 32}}, nil, api.ErrArg},
		{4, fine, []int{4}, api.ErrArg}, {4, fine, []int{-1}, api.ErrArg}, {4, fine, []int{1, 0}, api.ErrArg}, {4, fine, []int{2, 2}, api.ErrArg}, {4, fine, []int{0, math.MaxInt}, api.ErrArg}, {4, fine, []int{math.MinInt, 0}, api.ErrArg}, {4, fine, upTo(5), api.ErrArg}, {4, nil, []int{4}, api.ErrArg},
		{0, nil, []int{0}, api.ErrArg}, {0, [][]int{{0}}, nil, api.ErrArg}, {160, nil, []int{160}, api.ErrArg}, {160, [][]int{{160}}, nil, api.ErrArg}, {160, nil, upTo(161), api.ErrArg},
		{161, nil, nil, api.ErrArg}, {161, [][]int{{0}}, []int{0}, api.ErrArg}, {-1, nil, nil, api.ErrArg}, {math.MinInt, nil, nil, api.ErrArg}, {math.MaxInt, nil, nil, api.ErrArg}, {1 << 32, nil, nil, api.ErrArg},
		{4, make([][]int, 400), []int{1}, api.OK}, {4, make([][]int, 401), []int{1}, api.ErrArg}, {4, append(make([][]int, 399), []int{3}), nil, api.OK}, {4, append(make([][]int, 399), []int{4}), nil, api.ErrArg},
		{4, fine, make([]int, 100000), api.ErrArg}, {4, make([][]int, 100000), nil, api.ErrArg},
	} {
		rows, known := copied(x.rows), slices.Clone(x.known)
		checkErrors(t, x.n, x.rows, x.known, x.want)
		if !same(rows, x.rows) || !slices.Equal(known, x.known) {
			t.Errorf("what is handed in is changed: %v, %v", x.rows, x.known)
		}
	}
}

// 13.1, 13.2: rows of all kinds, held against the document's words.
func TestRowsByDocument(t *testing.T) {
	r := rand.New(rand.NewSource(1))
	whole, part, none, needy := 0, 0, 0, 0
	for round := range 1500 {
		n := 1 + r.Intn(12)
		rows := shortRows(n, r.Intn(14), 2+r.Intn(4), r)
		known := someRow(n, []int{0, 10, 30}[round%3], r)
		keptRows, keptKnown := copied(rows), slices.Clone(known)
		if l, e := Ripe(n, rows, known); e != api.OK || !slices.Equal(l, ripeByDocument(rows, setOf(known))) {
			t.Fatalf("Ripe(%d, %v, %v) = %v, %v", n, rows, known, l, e)
		}
		set := setOf(known)
		steps := stepsByDocument(rows, set)
		if l, e := Steps(n, rows, known); e != api.OK || !slices.Equal(l, steps) {
			t.Fatalf("Steps(%d, %v, %v) = %v, %v, want %v", n, rows, known, l, e, steps)
		}
		if l, e := Known(n, rows, known); e != api.OK || !slices.Equal(l, listOf(set)) {
			t.Fatalf("Known(%d, %v, %v) = %v, %v, want %v", n, rows, known, l, e, listOf(set))
		}
		needs := needsByDocument(n, rows, known)
		if l, e := Needs(n, rows, known); e != api.OK || !slices.Equal(l, needs) {
			t.Fatalf("Needs(%d, %v, %v) = %v, %v, want %v", n, rows, known, l, e, needs)
		}
		if !same(keptRows, rows) || !slices.Equal(keptKnown, known) {
			t.Fatalf("what is handed in is changed: %v, %v", rows, known)
		}
		switch {
		case len(steps)+len(known) == n:
			whole++
		case len(steps) > 0:
			part++
		default:
			none++
		}
		if !slices.IsSorted(needs) && len(needs) > 2 {
			needy++
		}
	}
	if whole < 50 || part < 50 || none < 50 || needy < 50 {
		t.Errorf("all got known %d times, some %d, none %d; %d times a number that is in no row came ahead of a less one: take other rows", whole, part, none, needy)
	}
}

// 13.1: as many rows and numbers as there may be, in the order in which the first ripe row is always the last one.
func TestManyRows(t *testing.T) {
	var rows [][]int
	for i := range 160 {
		rows = append(rows, upTo(160-i))
	}
	rows = append(rows, make([][]int, 239)...)
	rows = append(rows, []int{159})
	var want []api.Step
	for i := range 159 {
		want = append(want, api.Step{Row: 159 - i, Num: i})
	}
	want = append(want, api.Step{Row: 0, Num: 159})
	if l, e := Steps(160, rows, nil); e != api.OK || !slices.Equal(l, want) {
		t.Errorf("Steps: %v, %v", l, e)
	}
	if l, e := Known(160, rows, nil); e != api.OK || !slices.Equal(l, upTo(160)) {
		t.Errorf("Known: %v, %v", l, e)
	}
	if l, e := Needs(160, rows, nil); e != api.OK || len(l) != 0 {
		t.Errorf("Needs: %v, %v", l, e)
	}
	if l, e := Needs(160, slices.Repeat([][]int{upTo(160)}, 400), nil); e != api.OK || !slices.Equal(l, upTo(159)) {
		t.Errorf("Needs of full rows: %v, %v", l, e)
	}
	if l, e := Ripe(160, slices.Repeat([][]int{{159}}, 400), upTo(159)); e != api.OK || !slices.Equal(l, upTo(400)) {
		t.Errorf("Ripe of 400: %v, %v", l, e)
	}
}

// 13.2: what is left, of any numbers, in the order of the row, each as often as it was.
func TestLeft(t *testing.T) {
	for _, x := range []struct {
		rows  [][]int
		known []int
		want  [][]int
	}{
		{[][]int{{0, 1}, {1, 2}, {0, 2, 3}, {5}}, []int{0, 5}, [][]int{{1}, {1, 2}, {2, 3}, {}}},
		{[][]int{{0, 1}, {1, 2}}, nil, [][]int{{0, 1}, {1, 2}}}, {[][]int{{0, 1}, nil, {}}, []int{}, [][]int{{0, 1}, {}, {}}},
		{[][]int{{3, 1, 2, 1, 3}}, []int{2}, [][]int{{3, 1, 1, 3}}}, {[][]int{{3, 1, 2, 1, 3}}, []int{3, 2, 3}, [][]int{{1, 1}}}, {[][]int{{9, 5, 7}}, []int{7, 9, 5, 9}, [][]int{{}}},
		{[][]int{{math.MaxInt, -1, 0, math.MinInt, 1 << 32}}, []int{math.MinInt, math.MaxInt, 0}, [][]int{{-1, 1 << 32}}}, {[][]int{{-1, -2}, {161, 400}}, []int{400, -2, 160}, [][]int{{-1}, {161}}},
	} {
		rows, known := copied(x.rows), slices.Clone(x.known)
		l := Left(x.rows, x.known)
		if !reflect.DeepEqual(l, x.want) {
			t.Errorf("Left(%v, %v) = %v, want %v", x.rows, x.known, l, x.want)
		}
		for k := range l {
			_ = append(l[k], -7)
			for i := range l[k] {
				l[k][i] = -7
			}
			for j := k + 1; j < len(l); j++ {
				if !slices.Equal(l[j], x.want[j]) {
					t.Errorf("rows %d and %d of an answer share memory", k, j)
				}
			}
		}
		if !same(rows, x.rows) || !slices.Equal(known, x.known) {
			t.Errorf("what is handed in is changed: %v, %v", x.rows, x.known)
		}
	}
	if l := Left(nil, []int{1}); len(l) != 0 {
		t.Errorf("Left of no rows: %v", l)
	}
	if l := Left(nil, nil); len(l) != 0 {
		t.Errorf("Left of nothing: %v", l)
	}
}

// 13.2: of many numbers, too, it ends in time.
func TestLeftOfMany(t *testing.T) {
	known := make([]int, 200000)
	for i := range known {
		known[i] = 2 * (len(known) - i)
	}
	l := Left([][]int{upTo(400001), slices.Clone(known)}, known)
	if len(l) != 2 || len(l[0]) != 200001 || len(l[1]) != 0 || l[0][0] != 0 || l[0][1] != 1 || l[0][200000] != 399999 {
		t.Errorf("Left of many: %d rows", len(l))
	}
}

// 13.1, 13.2: what is left behind peeling is never one number, and what is ripe has one left.
func TestRipeIsOneLeft(t *testing.T) {
	r := rand.New(rand.NewSource(2))
	for range 300 {
		n := 1 + r.Intn(40)
		rows := shortRows(n, r.Intn(50), 4, r)
		known := someRow(n, 10, r)
		ripe, _ := Ripe(n, rows, known)
		for k, l := range Left(rows, known) {
			if (len(l) == 1) != slices.Contains(ripe, k) {
				t.Fatalf("row %d of %v, known %v: %v is left, ripe are %v", k, rows, known, l, ripe)
			}
		}
		all, _ := Known(n, rows, known)
		for k, l := range Left(rows, all) {
			if len(l) == 1 {
				t.Fatalf("row %d of %v, known %v: %v is left behind peeling", k, rows, known, l)
			}
		}
	}
}

// isWithin tells whether all of a are in b; both rise.
func isWithin(a, b []int) bool {
	for _, i := range a {
		if _, is := slices.BinarySearch(b, i); !is {
			return false
		}
	}
	return true
}

// 13.3: the order does not matter; more rows, and more that is known, make no less known; peeled again, nothing more is; with what is needed all are known.
func TestWhatFollows(t *testing.T) {
	r := rand.New(rand.NewSource(3))
	grown := 0
	for range 300 {
		n := 1 + r.Intn(60)
		rows := shortRows(n, r.Intn(80), 4, r)
		known := someRow(n, 8, r)
		all, _ := Known(n, rows, known)
		if !isWithin(known, all) {
			t.Fatalf("Known(%d, %v, %v) = %v: less than was known", n, rows, known, all)
		}
		if l, _ := Known(n, rows, all); !slices.Equal(l, all) {
			t.Fatalf("peeled again: %v, and was %v", l, all)
		}
		if l, _ := Steps(n, rows, all); len(l) != 0 {
			t.Fatalf("steps behind peeling: %v", l)
		}
		needs, _ := Needs(n, rows, known)
		if l, _ := Known(n, rows, slices.Sorted(slices.Values(slices.Concat(known, needs)))); !slices.Equal(l, upTo(n)) {
			t.Fatalf("with what is needed: %v of %d", l, n)
		}
		mixed := copied(rows)
		r.Shuffle(len(mixed), func(i, j int) { mixed[i], mixed[j] = mixed[j], mixed[i] })
		if l, _ := Known(n, mixed, known); !slices.Equal(l, all) {
			t.Fatalf("in another order: %v, and was %v", l, all)
		}
		more, _ := Known(n, append(mixed, shortRows(n, 3, 2, r)...), known)
		other, _ := Known(n, rows, slices.Compact(slices.Sorted(slices.Values(slices.Concat(known, someRow(n, 10, r))))))
		if !isWithin(all, more) || !isWithin(all, other) {
			t.Fatalf("of more: %v, %v, and was %v", more, other, all)
		}
		if len(more) > len(all) && len(other) > len(all) {
			grown++
		}
	}
	if grown < 50 {
		t.Errorf("more made more known only %d times: take other rows", grown)
	}
}

// 13.3: what gets known is fixed, by the rows and those that are known; not all that is fixed gets known.
func TestKnownIsFixed(t *testing.T) {
	r := rand.New(rand.NewSource(4))
	less := 0
	for range 300 {
		n := 1 + r.Intn(40)
		rows := shortRows(n, r.Intn(60), 5, r)
		known := someRow(n, 8, r)
		all, _ := Known(n, rows, known)
		for _, i := range known {
			rows = append(rows, []int{i})
		}
		fixed, e := gauss.Fixed(n, rows)
		if e != api.OK || !isWithin(all, fixed) {
			t.Fatalf("known are %v, fixed %v, %v", all, fixed, e)
		}
		if len(all) < len(fixed) {
			less++
		}
	}
	if less == 0 {
		t.Error("all that was fixed got known: take other rows")
	}
	if l, _ := Known(3, someRows(3, 5, 100, r), nil); len(l) != 0 {
		t.Errorf("of full rows %v is known", l)
	}
}

// R3: an answer shares no memory with what is handed in.
func TestAnswersStandAlone(t *testing.T) {
	rows, known := [][]int{{0, 1}, {2}, {3, 4}}, make([]int, 1, 10)
	for _, f := range []func(int, [][]int, []int) ([]int, api.Errno){Known, Ripe, Needs} {
		l, _ := f(6, rows, known)
		if len(l) == 0 {
			t.Fatal("nothing is answered: take other rows")
		}
		for i := range l {
			l[i] = -1
		}
	}
	if !same(rows, [][]int{{0, 1}, {2}, {3, 4}}) || !slices.Equal(known[:3], []int{0, 0, 0}) {
		t.Errorf("what is handed in is changed: %v, %v", rows, known[:3])
	}
}
