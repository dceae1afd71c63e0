package bits

import (
	"math"
	"slices"
	"strings"
	"testing"

	"mosaic/api"
)

// wrongBounds are numbers below which there is no set.
func wrongBounds() []int {
	return []int{-1, -8, -160, api.MaxAll + 1, 168, 256, 1 << 32, 1<<32 + 8, math.MaxInt, math.MinInt}
}

// farNumbers are in no set.
func farNumbers() []int {
	return []int{-1, -2, -7, -8, -9, -64, api.MaxAll, api.MaxAll + 1, 256, 1 << 32, 1<<32 + 1, math.MaxInt, math.MaxInt - 7, math.MinInt, math.MinInt + 1}
}

// ones are the places of the bits that are 1, by the byte's arithmetic.
func ones(s string) []int {
	var l []int
	for i := range len(s) {
		for bit, left := 0, int(s[i]); left > 0; bit, left = bit+1, left/2 {
			if left%2 == 1 {
				l = append(l, 8*i+bit)
			}
		}
	}
	return l
}

// bytesOf is the set of numbers, added up bit by bit: each number stands once.
func bytesOf(n int, l []int) string {
	b := make([]int, (n+7)/8)
	for _, i := range l {
		power := 1
		for range i % 8 {
			power *= 2
		}
		b[i/8] += power
	}
	var s strings.Builder
	for _, c := range b {
		s.WriteByte(byte(c))
	}
	return s.String()
}

// isSetByDocument says what the chapter says of sets.
func isSetByDocument(n int, s string) bool {
	if n < 0 || n > 160 || len(s) != n/8 && len(s) != n/8+1 || 8*len(s) < n || 8*len(s)-n > 7 {
		return false
	}
	for _, i := range ones(s) {
		if i >= n {
			return false
		}
	}
	return true
}

// someLists are lists of unlike numbers below n, rising.
func someLists(n int) [][]int {
	var all []int
	for i := range n {
		all = append(all, i)
	}
	l := [][]int{nil, all}
	for _, step := range []int{2, 3, 7, 8, 9, 31} {
		var a, b []int
		for i := range n {
			if i%step == n%step {
				a = append(a, i)
			} else {
				b = append(b, i)
			}
		}
		l = append(l, a, b)
	}
	if n > 0 {
		l = append(l, []int{0}, []int{n - 1}, all[:n-1], all[1:], all[n/2:], all[:n/2])
	}
	return l
}

// texts are texts of any bytes, sets or not.
func texts() []string {
	l := []string{"", "\x00", "\x01", "\x80", "\xff", "\x7f", "\xfe", "\x00\x00\x00", "\x00\x01", "\x01\x00", "\x80\x80", "\xaa\x55", "\xff\xff\xff", "abc", "hello, all", "\xc3\xa4\xff\x00", strings.Repeat("\xff", 20), strings.Repeat("\x00", 21) + "\x40"}
	for i := range 256 {
		l = append(l, string([]byte{byte(i)}), string([]byte{byte(255 - i), byte(i * 7), byte(i)}))
	}
	return append(l, strings.Repeat("mosaic", 500))
}

// 8.1: which texts are sets: each bound, with texts of each length, and each bit at the edge.
func TestCheck(t *testing.T) {
	for s, want := range map[string]bool{"\x09\x02": true, "\xff\x03": true, "\x00\x00": true, "\x09\x04": false, "\x09\x80": false, "\x09": false, "\x09\x02\x00": false, "": false} {
		if Check(10, s) != want {
			t.Errorf("Check(10, %x) = %v", s, !want)
		}
	}
	for n := -9; n <= api.MaxAll+17; n++ {
		for long := range 24 {
			l := []string{strings.Repeat("\x00", long), strings.Repeat("\xff", long)}
			for bit := range 8 {
				if long > 0 {
					l = append(l, l[0][1:]+string([]byte{1 << bit}), l[1][1:]+string([]byte{1<<bit - 1}), string([]byte{1 << bit})+l[0][1:])
				}
			}
			for _, s := range l {
				if got := Check(n, s); got != isSetByDocument(n, s) {
					t.Errorf("Check(%d, %x) = %v", n, s, got)
				}
			}
		}
	}
}

// 8.1: bounds that may not be have no sets.
func TestCheckOfNoBound(t *testing.T) {
	for _, n := range wrongBounds() {
		for _, s := range append(texts(), strings.Repeat("\x00", 21), strings.Repeat("\x00", 32)) {
			if Check(n, s) {
				t.Errorf("Check(%d, %x)", n, s)
			}
		}
		if Empty(n) != "" || Full(n) != "" {
			t.Errorf("Empty(%d) = %x, Full = %x", n, Empty(n), Full(n))
		}
	}
}

// 8.1: the set of none, and that of all.
func TestEmptyAndFull(t *testing.T) {
	if Full(10) != "\xff\x03" || Empty(10) != "\x00\x00" || Full(8) != "\xff" || Full(0) != "" || Empty(0) != "" {
		t.Errorf("Full(10) = %x, Empty(10) = %x", Full(10), Empty(10))
	}
	for n := range api.MaxAll + 1 {
		if got, want := Empty(n), bytesOf(n, nil); got != want {
			t.Errorf("Empty(%d) = %x, want %x", n, got, want)
		}
		if got, want := Full(n), bytesOf(n, someLists(n)[1]); got != want {
			t.Errorf("Full(%d) = %x, want %x", n, got, want)
		}
	}
}

// 8.1: sets of lists, in whatever order these stand, and their lists, that rise.
func TestOfAndList(t *testing.T) {
	if got, e := Of(10, []int{9, 0, 3}); got != "\x09\x02" || e != api.OK {
		t.Errorf("Of(10, 9, 0, 3) = %x, %v", got, e)
	}
	for n := range api.MaxAll + 1 {
		for _, l := range someLists(n) {
			want := bytesOf(n, l)
			turned := slices.Clone(l)
			slices.Reverse(turned)
			turned = append(turned[len(l)/3:], turned[:len(l)/3]...)
			kept := slices.Clone(turned)
			if got, e := Of(n, turned); got != want || e != api.OK {
				t.Errorf("Of(%d, %d) = %x, %v, want %x", n, turned, got, e, want)
			}
			if !slices.Equal(kept, turned) {
				t.Errorf("the list is changed: %d", turned)
			}
			if got, e := List(n, want); !slices.Equal(got, l) || e != api.OK {
				t.Errorf("List(%d, %x) = %d, %v, want %d", n, want, got, e, l)
			}
		}
	}
}

// 8.1: numbers that may not be, and such as stand there twice; the former come first, wherever they stand.
func TestOfErrors(t *testing.T) {
	for i, x := range []struct {
		n    int
		l    []int
		want api.Errno
	}{
		{10, []int{10}, api.ErrArg}, {10, []int{-1}, api.ErrArg}, {10, []int{9}, api.OK}, {10, []int{0}, api.OK}, {10, []int{1, 1}, api.ErrThere}, {10, []int{1, 2, 3, 1}, api.ErrThere}, {10, []int{9, 8, 9}, api.ErrThere}, {10, []int{0, 0}, api.ErrThere},
		{10, []int{1, 1, 10}, api.ErrArg}, {10, []int{1, 1, -1}, api.ErrArg}, {10, []int{10, 1, 1}, api.ErrArg}, {10, []int{15}, api.ErrArg}, {10, []int{16}, api.ErrArg}, {10, []int{3, math.MaxInt}, api.ErrArg}, {10, []int{3, math.MinInt}, api.ErrArg},
		{0, nil, api.OK}, {0, []int{0}, api.ErrArg}, {0, []int{-1}, api.ErrArg}, {8, []int{8}, api.ErrArg}, {160, []int{159}, api.OK}, {160, []int{160}, api.ErrArg}, {160, []int{159, 159}, api.ErrThere},
		{161, nil, api.ErrArg}, {161, []int{0}, api.ErrArg}, {161, []int{1, 1}, api.ErrArg}, {-1, nil, api.ErrArg}, {-1, []int{0}, api.ErrArg}, {math.MaxInt, []int{5}, api.ErrArg}, {math.MinInt, nil, api.ErrArg},
	} {
		want := ""
		if x.want == api.OK {
			want = bytesOf(x.n, x.l)
		}
		if got, e := Of(x.n, x.l); got != want || e != x.want {
			t.Errorf("%d: Of(%d, %d) = %x, %v, want %x, %v", i, x.n, x.l, got, e, want, x.want)
		}
	}
	for _, n := range wrongBounds() {
		if got, e := Of(n, nil); got != "" || e != api.ErrArg {
			t.Errorf("Of(%d) = %x, %v", n, got, e)
		}
	}
}

// 8.1: what is no set has no list.
func TestListErrors(t *testing.T) {
	for _, s := range texts() {
		for _, n := range append(wrongBounds(), 0, 1, 7, 8, 9, 10, 16, 23, 24, 25, 159, 160) {
			got, e := List(n, s)
			if !isSetByDocument(n, s) {
				if len(got) != 0 || e != api.ErrForm {
					t.Errorf("List(%d, %x) = %d, %v", n, s, got, e)
				}
			} else if !slices.Equal(got, ones(s)) || e != api.OK {
				t.Errorf("List(%d, %x) = %d, %v, want %d", n, s, got, e, ones(s))
			}
		}
	}
}

// R3: no two answers are one list.
func TestListStandsAlone(t *testing.T) {
	a, _ := List(10, "\x09\x02")
	clear(a)
	if b, _ := List(10, "\x09\x02"); !slices.Equal(b, []int{0, 3, 9}) {
		t.Errorf("two answers share memory: %d", b)
	}
}

// 8.2: the bits of any text, and bits that it has not.
func TestHas(t *testing.T) {
	for _, s := range texts() {
		l := ones(s)
		for i := -20; i < 8*len(s)+20; i++ {
			if _, want := slices.BinarySearch(l, i); Has(s, i) != want {
				t.Errorf("Has(%.30x, %d) = %v", s, i, !want)
			}
		}
	}
	for _, s := range []string{"", "\xff", strings.Repeat("\xff", 20)} {
		for _, i := range farNumbers() {
			if Has(s, i) {
				t.Errorf("Has(%x, %d)", s, i)
			}
		}
	}
}

// without is a list without one number.
func without(l []int, i int) []int {
	return slices.DeleteFunc(slices.Clone(l), func(j int) bool { return i == j })
}

// 8.2: each number below n, put into and taken out of sets that have it, and that have not.
func TestWithAndWithout(t *testing.T) {
	for _, n := range []int{1, 2, 7, 8, 9, 10, 15, 16, 17, 63, 64, 65, 96, 159, 160} {
		for _, l := range someLists(n) {
			s := bytesOf(n, l)
			for i := range n {
				out := without(l, i)
				if got, e := With(n, s, i); got != bytesOf(n, append(slices.Clone(out), i)) || e != api.OK {
					t.Errorf("With(%d, %x, %d) = %x, %v", n, s, i, got, e)
				}
				if got, e := Without(n, s, i); got != bytesOf(n, out) || e != api.OK {
					t.Errorf("Without(%d, %x, %d) = %x, %v", n, s, i, got, e)
				}
			}
		}
	}
}

// 8.2: what is no set comes ahead of a number that may not be.
func TestWithErrors(t *testing.T) {
	check := func(n int, s string, i int, want api.Errno) {
		if got, e := With(n, s, i); got != "" || e != want {
			t.Errorf("With(%d, %x, %d) = %x, %v, want %v", n, s, i, got, e, want)
		}
		if got, e := Without(n, s, i); got != "" || e != want {
			t.Errorf("Without(%d, %x, %d) = %x, %v, want %v", n, s, i, got, e, want)
		}
	}
	for _, i := range append(farNumbers(), 10, 11, 15, 16) {
		check(10, "\x09\x02", i, api.ErrArg)
		check(10, "\x09\x04", i, api.ErrForm)
	}
	for _, i := range append(farNumbers(), 0, 1, 7, 8, 9) {
		check(0, "", i, api.ErrArg)
		check(0, "\x00", i, api.ErrForm)
		check(9, "\x09\x02", i, api.ErrForm)
		check(10, "\x09", i, api.ErrForm)
		check(10, "\x09\x02\x00", i, api.ErrForm)
		check(8, "", i, api.ErrForm)
		for _, n := range wrongBounds() {
			check(n, "", i, api.ErrForm)
			check(n, strings.Repeat("\x00", 21), i, api.ErrForm)
		}
	}
	check(8, "\xff", 8, api.ErrArg)
	check(160, strings.Repeat("\xff", 20), 160, api.ErrArg)
}

// 8.2: each byte with each other one.
func TestAndOrMinus(t *testing.T) {
	for a := range 256 {
		for b := range 256 {
			x, y := string([]byte{byte(a), byte(b), byte(a)}), string([]byte{byte(b), byte(a), 0x5a})
			checkMerged(t, x, y)
		}
	}
	for _, long := range []int{0, 20, 1000} {
		checkMerged(t, strings.Repeat("\x0f", long), strings.Repeat("\x3c", long))
	}
}

// checkMerged holds what is made of two texts of one length against their numbers.
func checkMerged(t *testing.T, a, b string) {
	var both, one, left []int
	for i := range 8 * len(a) {
		inA, inB := slices.Contains(ones(a[i/8:i/8+1]), i%8), slices.Contains(ones(b[i/8:i/8+1]), i%8)
		if inA && inB {
			both = append(both, i)
		}
		if inA || inB {
			one = append(one, i)
		}
		if inA && !inB {
			left = append(left, i)
		}
	}
	if got, e := And(a, b); got != bytesOf(8*len(a), both) || e != api.OK {
		t.Errorf("And(%x, %x) = %x, %v", a, b, got, e)
	}
	if got, e := Or(a, b); got != bytesOf(8*len(a), one) || e != api.OK {
		t.Errorf("Or(%x, %x) = %x, %v", a, b, got, e)
	}
	if got, e := Minus(a, b); got != bytesOf(8*len(a), left) || e != api.OK {
		t.Errorf("Minus(%x, %x) = %x, %v", a, b, got, e)
	}
}

// 8.2: texts that are not of one length.
func TestAndOrMinusErrors(t *testing.T) {
	for name, f := range map[string]func(a, b string) (string, api.Errno){"And": And, "Or": Or, "Minus": Minus} {
		for _, x := range [][2]string{{"a", ""}, {"", "a"}, {"ab", "a"}, {"a", "ab"}, {"\x00\x00", "\x00"}, {strings.Repeat("a", 1000), "a"}} {
			if got, e := f(x[0], x[1]); got != "" || e != api.ErrArg {
				t.Errorf("%s(%x, %x) = %x, %v", name, x[0], x[1], got, e)
			}
		}
	}
}

// 8.3: of any text.
func TestCountRankNth(t *testing.T) {
	if Count("\x09\x02") != 3 || Rank("\x09\x02", 9) != 2 || Rank("\x09\x02", 10) != 3 || Nth("\x09\x02", 2) != 9 || Nth("\xff\x03", 2) != 2 {
		t.Errorf("of 0, 3, 9: %d, %d, %d", Count("\x09\x02"), Rank("\x09\x02", 9), Nth("\x09\x02", 2))
	}
	for _, s := range texts() {
		l := ones(s)
		if got := Count(s); got != len(l) {
			t.Errorf("Count(%.30x) = %d, want %d", s, got, len(l))
		}
		for i := -9; i < min(8*len(s)+9, 300); i++ {
			if want, _ := slices.BinarySearch(l, i); Rank(s, i) != want {
				t.Errorf("Rank(%.30x, %d) = %d, want %d", s, i, Rank(s, i), want)
			}
		}
		for k := range min(len(l), 300) {
			if got := Nth(s, k); got != l[k] {
				t.Errorf("Nth(%.30x, %d) = %d, want %d", s, k, got, l[k])
			}
		}
		for _, k := range []int{-1, -2, len(l), len(l) + 1, 1 << 32, math.MaxInt, math.MinInt, math.MinInt + 1} {
			if got := Nth(s, k); got != -1 {
				t.Errorf("Nth(%.30x, %d) = %d", s, k, got)
			}
		}
		for _, i := range []int{8 * len(s), 1 << 40, math.MaxInt, math.MaxInt - 1} {
			if got := Rank(s, i); got != len(l) {
				t.Errorf("Rank(%.30x, %d) = %d, want %d", s, i, got, len(l))
			}
		}
		for _, i := range []int{0, -1, math.MinInt} {
			if got := Rank(s, i); got != 0 {
				t.Errorf("Rank(%.30x, %d) = %d", s, i, got)
			}
		}
	}
}

// 8.4: what a set has is what its list has; Rank and Nth undo each other.
func TestSetsAreTheirNumbers(t *testing.T) {
	for n := range api.MaxAll + 1 {
		for _, l := range someLists(n) {
			s, _ := Of(n, l)
			if !Check(n, s) || Count(s) != len(l) {
				t.Errorf("Of(%d, %d) = %x is no such set", n, l, s)
			}
			for k, i := range l {
				if !Has(s, i) || Rank(s, i) != k || Nth(s, k) != i || Rank(s, Nth(s, k)) != k || Nth(s, Rank(s, i)) != i {
					t.Errorf("%x: the %d-th one is %d: %d, %d", s, k, i, Rank(s, i), Nth(s, k))
				}
			}
		}
	}
}

// 8.4: what is put together and taken apart are sets below the same number, reckoned number by number.
func TestSetsPutTogether(t *testing.T) {
	for _, n := range []int{0, 1, 8, 10, 63, 160} {
		for _, x := range someLists(n) {
			for _, y := range someLists(n) {
				a, b := bytesOf(n, x), bytesOf(n, y)
				and, _ := And(a, b)
				or, _ := Or(a, b)
				minus, _ := Minus(a, b)
				if !Check(n, and) || !Check(n, or) || !Check(n, minus) {
					t.Fatalf("%x, %x: %x, %x, %x are not sets below %d", a, b, and, or, minus, n)
				}
				for i := range n {
					inA, inB := slices.Contains(x, i), slices.Contains(y, i)
					if Has(and, i) != (inA && inB) || Has(or, i) != (inA || inB) || Has(minus, i) != (inA && !inB) {
						t.Errorf("%x, %x, at %d: %x, %x, %x", a, b, i, and, or, minus)
					}
				}
			}
		}
	}
}
