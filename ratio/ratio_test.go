package ratio

import (
	"math"
	"math/big"
	"math/rand"
	"testing"

	"mosaic/api"
)

const (
	top  = api.MaxRatio
	edge = 1 << 62
)

// numbers are those about which something may go wrong, and some ordinary ones.
func numbers() []int {
	l := []int{0, 1, 2, 3, 4, 6, 12, 35, 1000, 46341, 65536, 1 << 30}
	for _, n := range []int{top, 2 * top, 3 * top, top * top, 1 << 31, 1 << 32, 1 << 61, edge, math.MaxInt} {
		l = append(l, n-1, n)
		if n < math.MaxInt {
			l = append(l, n+1)
		}
	}
	for _, n := range l[1:] {
		l = append(l, -n)
	}
	return append(l, math.MinInt, math.MinInt+1)
}

// mayBe says what the chapter says of ratios, by another reckoning.
func mayBe(x api.Ratio) bool {
	if x.D < 1 || x.D > top || x.N < -top || x.N > top {
		return false
	}
	r := big.NewRat(int64(x.N), int64(x.D))
	return r.Num().Int64() == int64(x.N) && r.Denom().Int64() == int64(x.D)
}

// told is what is to be answered if r is the number: it, or ErrOver.
func told(r *big.Rat) (api.Ratio, api.Errno) {
	most := big.NewInt(top)
	if r.Num().CmpAbs(most) > 0 || r.Denom().Cmp(most) > 0 {
		return api.Ratio{}, api.ErrOver
	}
	return api.Ratio{N: int(r.Num().Int64()), D: int(r.Denom().Int64())}, api.OK
}

func rat(x api.Ratio) *big.Rat {
	return big.NewRat(int64(x.N), int64(x.D))
}

// floorOf is the greatest integer not above r: Euclid's quotient, since the lower part is above 0.
func floorOf(r *big.Rat) int {
	return int(new(big.Int).Div(r.Num(), r.Denom()).Int64())
}

// right are ratios that may be: all that parts at the edges make, and some others.
func right() []api.Ratio {
	parts := []int{1, 2, 3, 4, 6, 46341, 65536, 1 << 30, top - 2, top - 1, top}
	chance := rand.New(rand.NewSource(5))
	for bits := 1; bits <= 31; bits++ {
		parts = append(parts, 1+chance.Intn(1<<bits-1))
	}
	l := []api.Ratio{{N: 0, D: 1}}
	for _, d := range parts {
		for _, n := range parts {
			if x := (api.Ratio{N: n, D: d}); mayBe(x) {
				l = append(l, x, api.Ratio{N: -n, D: d})
			}
		}
	}
	return l
}

// some are every so many of the right ones, for pairs of them.
func some(every int) []api.Ratio {
	var l []api.Ratio
	for i, x := range right() {
		if i%every == 0 || i < 60 {
			l = append(l, x)
		}
	}
	return l
}

// wrong are ratios that may not be.
func wrong() []api.Ratio {
	return []api.Ratio{
		{}, {N: 1}, {N: -1}, {N: 0, D: 2}, {N: 0, D: top}, {N: 0, D: -1}, {N: 2, D: 4}, {N: -2, D: 4}, {N: 3, D: 3}, {N: 1, D: -1}, {N: -1, D: -2}, {N: 1, D: -2},
		{N: top + 1, D: 1}, {N: -top - 1, D: 1}, {N: 1, D: top + 1}, {N: -1, D: top + 1}, {N: top, D: top}, {N: 1, D: 1 << 32}, {N: 1 << 32, D: 1}, {N: 1<<32 + 1, D: 3},
		{N: math.MinInt, D: 1}, {N: math.MaxInt, D: 1}, {N: 1, D: math.MinInt}, {N: 1, D: math.MaxInt}, {N: math.MinInt, D: math.MinInt}, {N: math.MaxInt, D: math.MaxInt}, {N: math.MinInt, D: 3},
	}
}

// 5.1: the greatest number that divides both.
func TestGcd(t *testing.T) {
	for a := 0; a <= 60; a++ {
		for b := 0; b <= 60; b++ {
			want := 0
			for d := 1; d <= 60; d++ {
				if a%d == 0 && b%d == 0 && a+b > 0 {
					want = d
				}
			}
			if got := Gcd(a, b); got != want {
				t.Errorf("Gcd(%d, %d) = %d, want %d", a, b, got, want)
			}
		}
	}
	for _, a := range numbers() {
		for _, b := range numbers() {
			want := 0
			if a >= 0 && b >= 0 {
				want = int(new(big.Int).GCD(nil, nil, big.NewInt(int64(a)), big.NewInt(int64(b))).Int64())
			}
			if got := Gcd(a, b); got != want {
				t.Errorf("Gcd(%d, %d) = %d, want %d", a, b, got, want)
			}
		}
	}
}

// 5.1: a number by another one.
func TestOf(t *testing.T) {
	for _, x := range []struct {
		n, d int
		want api.Ratio
		e    api.Errno
	}{
		{6, -4, api.Ratio{N: -3, D: 2}, api.OK},
		{-6, -4, api.Ratio{N: 3, D: 2}, api.OK},
		{0, -7, api.Ratio{N: 0, D: 1}, api.OK},
		{0, edge, api.Ratio{N: 0, D: 1}, api.OK},
		{edge, edge, api.Ratio{N: 1, D: 1}, api.OK},
		{edge, -edge, api.Ratio{N: -1, D: 1}, api.OK},
		{-edge, 1 << 32, api.Ratio{N: -1 << 30, D: 1}, api.OK},
		{top, 1, api.Ratio{N: top, D: 1}, api.OK},
		{-top, -1, api.Ratio{N: top, D: 1}, api.OK},
		{1, -top, api.Ratio{N: -1, D: top}, api.OK},
		{top + 1, 1, api.Ratio{}, api.ErrOver},
		{-top - 1, 1, api.Ratio{}, api.ErrOver},
		{1, top + 1, api.Ratio{}, api.ErrOver},
		{edge, 1, api.Ratio{}, api.ErrOver},
		{1, -edge, api.Ratio{}, api.ErrOver},
		{edge + 1, 1, api.Ratio{}, api.ErrArg},
		{edge + 1, edge + 1, api.Ratio{}, api.ErrArg},
		{-edge - 1, 1, api.Ratio{}, api.ErrArg},
		{1, edge + 1, api.Ratio{}, api.ErrArg},
		{0, -edge - 1, api.Ratio{}, api.ErrArg},
		{1, 0, api.Ratio{}, api.ErrArg},
		{0, 0, api.Ratio{}, api.ErrArg},
		{math.MinInt, math.MinInt, api.Ratio{}, api.ErrArg},
		{math.MinInt, -1, api.Ratio{}, api.ErrArg},
	} {
		if got, e := Of(x.n, x.d); got != x.want || e != x.e {
			t.Errorf("Of(%d, %d) = %v, %v, want %v, %v", x.n, x.d, got, e, x.want, x.e)
		}
	}
}

// 5.1: all pairs of numbers at the edges.
func TestOfAtTheEdges(t *testing.T) {
	for _, n := range numbers() {
		for _, d := range numbers() {
			want, errno := api.Ratio{}, api.ErrArg
			if d != 0 && -edge <= n && n <= edge && -edge <= d && d <= edge {
				want, errno = told(big.NewRat(int64(n), int64(d)))
			}
			if got, e := Of(n, d); got != want || e != errno {
				t.Errorf("Of(%d, %d) = %v, %v, want %v, %v", n, d, got, e, want, errno)
			}
		}
	}
}

// 5.1: which ratios may be.
func TestCheck(t *testing.T) {
	for _, x := range right() {
		if !Check(x) {
			t.Errorf("%v may not be", x)
		}
	}
	for _, x := range wrong() {
		if Check(x) {
			t.Errorf("%v may be", x)
		}
	}
	for _, n := range numbers() {
		for _, d := range numbers() {
			if x := (api.Ratio{N: n, D: d}); Check(x) != mayBe(x) {
				t.Errorf("Check(%v) = %v", x, Check(x))
			}
		}
	}
	for n := -40; n <= 40; n++ {
		for d := -2; d <= 40; d++ {
			if x := (api.Ratio{N: n, D: d}); Check(x) != mayBe(x) {
				t.Errorf("Check(%v) = %v", x, Check(x))
			}
		}
	}
}

type operation struct {
	name string
	do   func(x, y api.Ratio) (api.Ratio, api.Errno)
	big  func(z, x, y *big.Rat) *big.Rat
}

func operations() []operation {
	return []operation{{"Add", Add, (*big.Rat).Add}, {"Sub", Sub, (*big.Rat).Sub}, {"Mul", Mul, (*big.Rat).Mul}, {"Div", Div, (*big.Rat).Quo}}
}

// 5.2: sums, differences, products and quotients.
func TestOperations(t *testing.T) {
	half, third := api.Ratio{N: 1, D: 2}, api.Ratio{N: 1, D: 3}
	if x, e := Add(half, third); x != (api.Ratio{N: 5, D: 6}) || e != api.OK {
		t.Errorf("1/2 + 1/3 = %v, %v", x, e)
	}
	if x, e := Sub(third, half); x != (api.Ratio{N: -1, D: 6}) || e != api.OK {
		t.Errorf("1/3 - 1/2 = %v, %v", x, e)
	}
	if x, e := Mul(api.Ratio{N: -2, D: 3}, api.Ratio{N: 3, D: 4}); x != (api.Ratio{N: -1, D: 2}) || e != api.OK {
		t.Errorf("-2/3 * 3/4 = %v, %v", x, e)
	}
	if x, e := Div(half, api.Ratio{N: -3, D: 4}); x != (api.Ratio{N: -2, D: 3}) || e != api.OK {
		t.Errorf("1/2 / -3/4 = %v, %v", x, e)
	}
}

// 5.2: all pairs of many ratios, by another reckoning; among them those whose parts are beyond the bounds, and come back in lowest terms.
func TestOperationsOnPairs(t *testing.T) {
	for _, o := range operations() {
		fits, over := 0, 0
		for _, x := range some(9) {
			for _, y := range some(9) {
				want, errno := api.Ratio{}, api.ErrArg
				if o.name != "Div" || y.N != 0 {
					want, errno = told(o.big(new(big.Rat), rat(x), rat(y)))
				}
				if got, e := o.do(x, y); got != want || e != errno {
					t.Fatalf("%s(%v, %v) = %v, %v, want %v, %v", o.name, x, y, got, e, want, errno)
				}
				switch errno {
				case api.OK:
					fits++
				case api.ErrOver:
					over++
				}
			}
		}
		if fits < 1000 || over < 1000 {
			t.Errorf("%s: %d fit, %d do not: these are too few", o.name, fits, over)
		}
	}
}

// 5.2: the greatest parts of all, which nearly fill an integer before they are cut.
func TestOperationsAtTheEdges(t *testing.T) {
	big, small, one := api.Ratio{N: top, D: 1}, api.Ratio{N: 1, D: top}, api.Ratio{N: 1, D: 1}
	near := api.Ratio{N: top, D: top - 1}
	for i, x := range []struct {
		do   func(x, y api.Ratio) (api.Ratio, api.Errno)
		x, y api.Ratio
		want api.Ratio
		e    api.Errno
	}{
		{Add, big, api.Ratio{N: -1, D: 1}, api.Ratio{N: top - 1, D: 1}, api.OK},
		{Add, big, one, api.Ratio{}, api.ErrOver},
		{Add, near, near, api.Ratio{N: top, D: (top - 1) / 2}, api.OK},
		{Add, small, small, api.Ratio{N: 2, D: top}, api.OK},
		{Add, small, api.Ratio{N: 1, D: top - 1}, api.Ratio{}, api.ErrOver},
		{Sub, big, big, api.Ratio{N: 0, D: 1}, api.OK},
		{Sub, near, near, api.Ratio{N: 0, D: 1}, api.OK},
		{Sub, api.Ratio{N: -top, D: 1}, one, api.Ratio{}, api.ErrOver},
		{Sub, api.Ratio{N: -top, D: top - 1}, near, api.Ratio{N: -top, D: (top - 1) / 2}, api.OK},
		{Mul, big, small, one, api.OK},
		{Mul, big, big, api.Ratio{}, api.ErrOver},
		{Mul, small, small, api.Ratio{}, api.ErrOver},
		{Mul, big, api.Ratio{N: -1, D: 1}, api.Ratio{N: -top, D: 1}, api.OK},
		{Mul, near, api.Ratio{N: top - 1, D: top}, one, api.OK},
		{Div, big, big, one, api.OK},
		{Div, big, small, api.Ratio{}, api.ErrOver},
		{Div, one, api.Ratio{N: -top, D: 1}, api.Ratio{N: -1, D: top}, api.OK},
		{Div, api.Ratio{N: 0, D: 1}, api.Ratio{N: -top, D: 1}, api.Ratio{N: 0, D: 1}, api.OK},
		{Div, big, api.Ratio{N: 0, D: 1}, api.Ratio{}, api.ErrArg},
	} {
		if got, e := x.do(x.x, x.y); got != x.want || e != x.e {
			t.Errorf("%d: of %v and %v: %v, %v, want %v, %v", i, x.x, x.y, got, e, x.want, x.e)
		}
	}
}

// 5.2: what may not be.
func TestOperationsOnWhatMayNotBe(t *testing.T) {
	for _, o := range operations() {
		for _, x := range wrong() {
			for _, y := range append(wrong(), some(100)...) {
				if got, e := o.do(x, y); got != (api.Ratio{}) || e != api.ErrArg {
					t.Errorf("%s(%v, %v) = %v, %v", o.name, x, y, got, e)
				}
				if got, e := o.do(y, x); got != (api.Ratio{}) || e != api.ErrArg {
					t.Errorf("%s(%v, %v) = %v, %v", o.name, y, x, got, e)
				}
			}
		}
	}
	for _, x := range some(100) {
		if got, e := Div(x, api.Ratio{N: 0, D: 1}); got != (api.Ratio{}) || e != api.ErrArg {
			t.Errorf("Div(%v, 0) = %v, %v", x, got, e)
		}
	}
}

// 5.3: how two stand.
func TestCompare(t *testing.T) {
	for _, x := range some(9) {
		for _, y := range some(9) {
			if got, want := Compare(x, y), rat(x).Cmp(rat(y)); got != want {
				t.Fatalf("Compare(%v, %v) = %d, want %d", x, y, got, want)
			}
		}
	}
	for _, x := range wrong() {
		for _, y := range append(wrong(), some(100)...) {
			if Compare(x, y) != 0 || Compare(y, x) != 0 {
				t.Errorf("Compare of %v and %v", x, y)
			}
		}
	}
}

// 5.3: the integers next to a ratio.
func TestFloorAndCeil(t *testing.T) {
	for _, x := range []struct {
		x           api.Ratio
		floor, ceil int
	}{
		{api.Ratio{N: -3, D: 2}, -2, -1},
		{api.Ratio{N: 3, D: 2}, 1, 2},
		{api.Ratio{N: -1, D: top}, -1, 0},
		{api.Ratio{N: 1, D: top}, 0, 1},
		{api.Ratio{N: 0, D: 1}, 0, 0},
		{api.Ratio{N: -4, D: 1}, -4, -4},
		{api.Ratio{N: top, D: 1}, top, top},
		{api.Ratio{N: -top, D: 1}, -top, -top},
		{api.Ratio{N: -top, D: 2}, -(top + 1) / 2, -(top - 1) / 2},
	} {
		if floor, ceil := Floor(x.x), Ceil(x.x); floor != x.floor || ceil != x.ceil {
			t.Errorf("%v: %d, %d, want %d, %d", x.x, floor, ceil, x.floor, x.ceil)
		}
	}
	for _, x := range right() {
		r := rat(x)
		if got, want := Floor(x), floorOf(r); got != want {
			t.Errorf("Floor(%v) = %d, want %d", x, got, want)
		}
		if got, want := Ceil(x), -floorOf(r.Neg(r)); got != want {
			t.Errorf("Ceil(%v) = %d, want %d", x, got, want)
		}
	}
	for _, x := range wrong() {
		if Floor(x) != 0 || Ceil(x) != 0 {
			t.Errorf("%v: %d, %d", x, Floor(x), Ceil(x))
		}
	}
}

// 5.3: a ratio times a number.
func TestScale(t *testing.T) {
	factors := []int{0, 1, 2, 3, 10, 65537, 1 << 31, top, api.Whole - 1, api.Whole}
	for _, x := range right() {
		for _, k := range factors {
			want := floorOf(new(big.Rat).Mul(rat(x), big.NewRat(int64(k), 1)))
			if got, e := Scale(x, k); got != want || e != api.OK {
				t.Errorf("Scale(%v, %d) = %d, %v, want %d", x, k, got, e, want)
			}
		}
		for _, k := range []int{-1, -2, api.Whole + 1, math.MaxInt, math.MinInt} {
			if got, e := Scale(x, k); got != 0 || e != api.ErrArg {
				t.Errorf("Scale(%v, %d) = %d, %v", x, k, got, e)
			}
		}
	}
	for _, x := range wrong() {
		for _, k := range append(factors, -1, api.Whole+1) {
			if got, e := Scale(x, k); got != 0 || e != api.ErrArg {
				t.Errorf("Scale(%v, %d) = %d, %v", x, k, got, e)
			}
		}
	}
	if got, e := Scale(api.Ratio{N: 1, D: 3}, api.Whole); got != 1431655765 || e != api.OK {
		t.Errorf("a third of 2^32: %d, %v", got, e)
	}
	if got, e := Scale(api.Ratio{N: -top, D: 1}, api.Whole); got != -top<<32 || e != api.OK {
		t.Errorf("the least: %d, %v", got, e)
	}
}

// 5.4: the order does not matter, neither of two nor of three.
func TestOrderDoesNotMatter(t *testing.T) {
	l := some(100)
	for _, x := range l {
		for _, y := range l {
			for _, o := range []operation{operations()[0], operations()[2]} {
				a, e := o.do(x, y)
				if b, f := o.do(y, x); a != b || e != f {
					t.Fatalf("%s of %v and %v: %v, %v, but %v, %v", o.name, x, y, a, e, b, f)
				}
				for _, z := range l[:20] {
					a, e := chain(o, x, y, z)
					if b, f := chain(o, z, y, x); e == api.OK && f == api.OK && a != b {
						t.Fatalf("%s of %v, %v and %v: %v, but %v", o.name, x, y, z, a, b)
					}
				}
			}
		}
	}
}

// chain does an operation to two, and to what comes of it and a third.
func chain(o operation, x, y, z api.Ratio) (api.Ratio, api.Errno) {
	a, e := o.do(x, y)
	if e != api.OK {
		return a, e
	}
	return o.do(a, z)
}

// 5.4: what is done and undone is as it was.
func TestThereAndBack(t *testing.T) {
	add, sub, mul, div := operations()[0], operations()[1], operations()[2], operations()[3]
	for _, pair := range [][2]operation{{add, sub}, {sub, add}, {mul, div}, {div, mul}} {
		for _, x := range some(9) {
			for _, y := range some(9) {
				there, e := pair[0].do(x, y)
				if e != api.OK || y.N == 0 && pair[1].name == "Div" {
					continue
				}
				if back, e := pair[1].do(there, y); back != x || e != api.OK {
					t.Fatalf("%s and %s of %v and %v: %v, %v", pair[0].name, pair[1].name, x, y, back, e)
				}
			}
		}
	}
}
