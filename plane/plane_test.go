package plane

import (
	"math"
	"math/big"
	"math/rand"
	"slices"
	"testing"

	"mosaic/api"
)

const top = api.MaxPlace

func at(x, y int) api.Place {
	return api.Place{X: x, Y: y}
}

// right are places that may be: all of parts at edges, all near 0, and some others.
func right() []api.Place {
	parts := []int{0, 1, -1, 2, -3, 7, 1000, -1024, 46341, -46341, top / 2, -top/2 - 1, top - 1, 1 - top, top, -top}
	var l []api.Place
	for _, x := range parts {
		for _, y := range parts {
			l = append(l, at(x, y))
		}
	}
	for x := -3; x <= 3; x++ {
		for y := -3; y <= 3; y++ {
			l = append(l, at(x, y))
		}
	}
	chance := rand.New(rand.NewSource(17))
	for bits := 1; bits <= 20; bits++ {
		for range 3 {
			l = append(l, at(chance.Intn(2<<bits+1)-1<<bits, chance.Intn(2<<bits+1)-1<<bits))
		}
	}
	return l
}

// wrong are places that may not be.
func wrong() []api.Place {
	var l []api.Place
	for _, x := range []int{top + 1, -top - 1, 2 * top, 1 << 32, 1<<32 + 1, 1 << 53, 1<<53 + 1, 1 << 62, math.MaxInt, math.MaxInt - 1, math.MinInt, math.MinInt + 1} {
		l = append(l, at(x, 0), at(0, x), at(x, x), at(x, -1), at(5, x), at(top, x), at(x, -top))
	}
	return l
}

// exact is a number that may grow to any size.
func exact(n int) *big.Int {
	return big.NewInt(int64(n))
}

// product is a times b, exactly.
func product(a, b api.Place) (x, y int) {
	less := new(big.Int).Sub(new(big.Int).Mul(exact(a.X), exact(b.X)), new(big.Int).Mul(exact(a.Y), exact(b.Y)))
	more := new(big.Int).Add(new(big.Int).Mul(exact(a.X), exact(b.Y)), new(big.Int).Mul(exact(a.Y), exact(b.X)))
	return int(less.Int64()), int(more.Int64())
}

// mayBe says what the chapter says of places.
func mayBe(x, y int) bool {
	return x >= -1048576 && x <= 1048576 && y >= -1048576 && y <= 1048576
}

// is asks that an answer is the place x, y, or ErrOver, if that may not be.
func is(t *testing.T, what string, a, b, got api.Place, e api.Errno, x, y int) {
	t.Helper()
	if mayBe(x, y) && (e != api.OK || got != at(x, y)) || !mayBe(x, y) && (e != api.ErrOver || got != at(0, 0)) {
		t.Errorf("%s(%v, %v) = %v, %v, want %d, %d", what, a, b, got, e, x, y)
	}
}

// 17.1: which places may be.
func TestCheck(t *testing.T) {
	for _, p := range right() {
		if !Check(p) {
			t.Errorf("%v may not be", p)
		}
	}
	for _, p := range wrong() {
		if Check(p) {
			t.Errorf("%v may be", p)
		}
	}
}

// 17.1: sums, differences, products, or that they are too great.
func TestAddSubMul(t *testing.T) {
	for _, a := range right() {
		for _, b := range right() {
			got, e := Add(a, b)
			is(t, "Add", a, b, got, e, a.X+b.X, a.Y+b.Y)
			got, e = Sub(a, b)
			is(t, "Sub", a, b, got, e, a.X-b.X, a.Y-b.Y)
			x, y := product(a, b)
			got, e = Mul(a, b)
			is(t, "Mul", a, b, got, e, x, y)
		}
	}
	if p, e := Mul(at(1, 2), at(3, -1)); e != api.OK || p != at(5, 5) {
		t.Errorf("the example: %v, %v", p, e)
	}
}

// 17.1: the edges: what just may be, and what is one too great, in each part.
func TestEdges(t *testing.T) {
	for _, x := range []struct {
		what func(a, b api.Place) (api.Place, api.Errno)
		a, b api.Place
		want api.Errno
	}{
		{Add, at(top-1, 0), at(1, 0), api.OK}, {Add, at(top, 0), at(1, 0), api.ErrOver}, {Add, at(0, -top), at(0, -1), api.ErrOver}, {Add, at(0, 1-top), at(0, -1), api.OK},
		{Sub, at(1-top, 0), at(1, 0), api.OK}, {Sub, at(-top, 0), at(1, 0), api.ErrOver}, {Sub, at(0, top), at(0, -1), api.ErrOver}, {Sub, at(top, top), at(top, top), api.OK},
		{Mul, at(top, 0), at(1, 0), api.OK}, {Mul, at(1024, 0), at(0, 1024), api.OK}, {Mul, at(1024, 1), at(1024, 0), api.OK}, {Mul, at(1025, 0), at(1024, 0), api.ErrOver}, {Mul, at(1024, 1), at(1024, -1), api.ErrOver}, {Mul, at(1024, 1), at(1, 1025), api.ErrOver}, {Mul, at(top, top), at(top, top), api.ErrOver}, {Mul, at(top, top), at(0, 0), api.OK},
	} {
		if p, e := x.what(x.a, x.b); e != x.want || (e != api.OK && p != at(0, 0)) {
			t.Errorf("of %v and %v: %v, %v, want %v", x.a, x.b, p, e, x.want)
		}
	}
}

// 17.1 to 17.4: what may not be, at each argument; ErrArg comes ahead of ErrOver.
func TestWrongPlaces(t *testing.T) {
	for _, p := range wrong() {
		for _, q := range append(right()[:20], append(wrong(), at(top, top))...) {
			for i, f := range []func(a, b api.Place) (api.Place, api.Errno){Add, Sub, Mul} {
				a, e := f(p, q)
				b, g := f(q, p)
				if a != at(0, 0) || b != at(0, 0) || e != api.ErrArg || g != api.ErrArg {
					t.Errorf("%d of %v and %v: %v, %v, %v, %v", i, p, q, a, e, b, g)
				}
			}
			if Dist(p, q) != -1 || Dist(q, p) != -1 {
				t.Errorf("Dist of %v and %v: %d, %d", p, q, Dist(p, q), Dist(q, p))
			}
			if a, b, e := Quo(p, q); a != at(0, 0) || b != at(0, 0) || e != api.ErrArg {
				t.Errorf("Quo(%v, %v) = %v, %v, %v", p, q, a, b, e)
			}
			if a, b, e := Quo(q, p); a != at(0, 0) || b != at(0, 0) || e != api.ErrArg {
				t.Errorf("Quo(%v, %v) = %v, %v, %v", q, p, a, b, e)
			}
		}
		for _, k := range []int{0, 1, 4, -1, math.MinInt, math.MaxInt} {
			if q, e := Turn(p, k); q != at(0, 0) || e != api.ErrArg {
				t.Errorf("Turn(%v, %d) = %v, %v", p, k, q, e)
			}
		}
		if Norm(p) != -1 || Unspiral(p) != -1 {
			t.Errorf("%v: the norm %d, the number %d", p, Norm(p), Unspiral(p))
		}
	}
}

// 17.1, 17.5: a place turned by quarters, to the left and to the right; turned four times it is as it was.
func TestTurn(t *testing.T) {
	for _, p := range right() {
		want := [4]api.Place{p, at(-p.Y, p.X), at(-p.X, -p.Y), at(p.Y, -p.X)}
		for k := -9; k <= 9; k++ {
			if q, e := Turn(p, k); e != api.OK || q != want[(k+12)%4] {
				t.Errorf("Turn(%v, %d) = %v, %v, want %v", p, k, q, e, want[(k+12)%4])
			}
		}
		for k, which := range map[int]int{math.MaxInt: 3, math.MinInt: 0, math.MinInt + 1: 1, 1 << 40: 0, 1<<40 + 1: 1, -1<<40 - 1: 3} {
			if q, e := Turn(p, k); e != api.OK || q != want[which] {
				t.Errorf("Turn(%v, %d) = %v, %v, want %v", p, k, q, e, want[which])
			}
		}
		times, _ := Mul(p, at(0, 1))
		if q, _ := Turn(p, 1); q != times {
			t.Errorf("Turn(%v, 1) = %v, times i it is %v", p, q, times)
		}
	}
}

// 17.1, 17.5: norms and distances; norms of products are the products of the norms.
func TestNormAndDist(t *testing.T) {
	for _, a := range right() {
		if want := a.X*a.X + a.Y*a.Y; Norm(a) != want || Dist(a, at(0, 0)) != want || Dist(a, a) != 0 {
			t.Errorf("Norm(%v) = %d, want %d", a, Norm(a), want)
		}
		for _, b := range right() {
			x, y := a.X-b.X, a.Y-b.Y
			if Dist(a, b) != x*x+y*y || Dist(b, a) != x*x+y*y {
				t.Errorf("Dist(%v, %v) = %d, want %d", a, b, Dist(a, b), x*x+y*y)
			}
			if p, e := Mul(a, b); e == api.OK && Norm(p) != Norm(a)*Norm(b) {
				t.Errorf("the norm of %v times %v is %d", a, b, Norm(p))
			}
		}
	}
	if Norm(at(top, -top)) != 1<<41 || Dist(at(top, top), at(-top, -top)) != 1<<43 {
		t.Errorf("the greatest: %d, %d", Norm(at(top, -top)), Dist(at(top, top), at(-top, -top)))
	}
}

// nearByDocument takes the nearest one of those that are left, of several the first one.
func nearByDocument(from api.Place, l []api.Place) []int {
	var out []int
	for range l {
		best, least := -1, 0
		for i, p := range l {
			d := (p.X-from.X)*(p.X-from.X) + (p.Y-from.Y)*(p.Y-from.Y)
			if !slices.Contains(out, i) && (best < 0 || d < least) {
				best, least = i, d
			}
		}
		out = append(out, best)
	}
	return out
}

// 17.2: places by their distance; what is handed in stays as it is.
func TestNear(t *testing.T) {
	chance := rand.New(rand.NewSource(172))
	for _, n := range []int{0, 1, 2, 3, 5, 12, 13, 40, 159, 160} {
		for _, most := range []int{0, 1, 3, top} { // of few places many are equally near
			for range 5 {
				l := make([]api.Place, n)
				for i := range l {
					l[i] = at(chance.Intn(2*most+1)-most, chance.Intn(2*most+1)-most)
				}
				from := at(chance.Intn(2*most+1)-most, chance.Intn(2*most+1)-most)
				kept := slices.Clone(l)
				got, e := Near(from, l)
				if want := nearByDocument(from, l); e != api.OK || !slices.Equal(got, want) || !slices.Equal(l, kept) {
					t.Errorf("Near(%v, %v) = %v, %v, want %v", from, l, got, e, want)
				}
			}
		}
	}
	if got, e := Near(at(0, 0), nil); len(got) != 0 || e != api.OK {
		t.Errorf("Near of none: %v, %v", got, e)
	}
	l := []api.Place{at(top, top), at(-top, -top), at(1-top, -top)}
	if got, e := Near(at(-top, -top), l); e != api.OK || !slices.Equal(got, []int{1, 2, 0}) {
		t.Errorf("Near at the edge: %v, %v", got, e)
	}
}

// 17.2: places that may not be come ahead of too many ones.
func TestNearErrors(t *testing.T) {
	many := make([]api.Place, api.MaxAll+1)
	if got, e := Near(at(0, 0), many); got != nil || e != api.ErrLong {
		t.Errorf("Near of %d: %v, %v", len(many), got, e)
	}
	if got, e := Near(at(0, 0), make([]api.Place, 5000)); got != nil || e != api.ErrLong {
		t.Errorf("Near of 5000: %v, %v", got, e)
	}
	for _, p := range wrong() {
		for _, l := range [][]api.Place{nil, {at(1, 1)}, many, {p}} {
			if got, e := Near(p, l); got != nil || e != api.ErrArg {
				t.Errorf("Near(%v, %d places) = %v, %v", p, len(l), got, e)
			}
		}
		for _, i := range []int{0, 1, api.MaxAll - 1, api.MaxAll} {
			l := slices.Clone(many)
			l[i] = p
			for _, n := range []int{i + 1, len(l)} {
				if got, e := Near(at(0, 0), l[:n]); got != nil || e != api.ErrArg {
					t.Errorf("Near of %d with %v: %v, %v", n, p, got, e)
				}
			}
		}
	}
}

// floorOf is the greatest integer not above n by d (Euclid's quotient, as d is above 0).
func floorOf(n, d int) int {
	return int(new(big.Int).Div(exact(n), exact(d)).Int64())
}

// 17.3, 17.5: a = q b + r, with q the nearest one; the rest's norm is at most half of that of b.
func TestQuo(t *testing.T) {
	for _, a := range right() {
		for _, b := range right() {
			q, r, e := Quo(a, b)
			if b == at(0, 0) {
				if q != at(0, 0) || r != at(0, 0) || e != api.ErrArg {
					t.Errorf("Quo(%v, 0, 0) = %v, %v, %v", a, q, r, e)
				}
				continue
			}
			x, y := product(a, at(b.X, -b.Y))
			n := b.X*b.X + b.Y*b.Y
			want := at(floorOf(2*x+n, 2*n), floorOf(2*y+n, 2*n)) // the nearest to a number is the floor of a half more
			if e != api.OK || q != want {
				t.Errorf("Quo(%v, %v) = %v, %v, %v, want %v", a, b, q, r, e, want)
			}
			x, y = product(q, b)
			if a != at(x+r.X, y+r.Y) || 2*Norm(r) > Norm(b) || !Check(q) || !Check(r) {
				t.Errorf("Quo(%v, %v): %v is left of %v", a, b, r, q)
			}
		}
	}
}

// 17.3: of two integers that are as near the greater one, in each part, above 0 and below.
func TestQuoOfHalves(t *testing.T) {
	for _, x := range []struct{ a, b, q, r api.Place }{
		{at(1, 0), at(2, 0), at(1, 0), at(-1, 0)}, {at(-1, 0), at(2, 0), at(0, 0), at(-1, 0)}, {at(3, -3), at(2, 0), at(2, -1), at(-1, -1)}, {at(-3, 3), at(2, 0), at(-1, 2), at(-1, -1)},
		{at(0, 1), at(2, 0), at(0, 1), at(0, -1)}, {at(0, -1), at(2, 0), at(0, 0), at(0, -1)}, {at(1, 0), at(-2, 0), at(0, 0), at(1, 0)}, {at(1, 0), at(0, 2), at(0, 0), at(1, 0)}, {at(1, 0), at(0, -2), at(0, 1), at(-1, 0)},
		{at(1, 0), at(1, 1), at(1, 0), at(0, -1)}, {at(7, 5), at(2, -1), at(2, 3), at(0, 1)}, {at(top, top), at(1, 0), at(top, top), at(0, 0)}, {at(top, top), at(1, 1), at(top, 0), at(0, 0)}, {at(-top, top), at(0, -1), at(-top, -top), at(0, 0)}, {at(0, 0), at(top, top), at(0, 0), at(0, 0)},
		{at(top-1, 0), at(2, 0), at(top/2, 0), at(-1, 0)}, {at(1-top, 0), at(2, 0), at(1-top/2, 0), at(-1, 0)}, {at(top/2, 0), at(top, 0), at(1, 0), at(-top/2, 0)}, {at(top/2-1, 0), at(top, 0), at(0, 0), at(top/2-1, 0)}, {at(-top/2, 0), at(top, 0), at(0, 0), at(-top/2, 0)}, {at(-top/2-1, 0), at(top, 0), at(-1, 0), at(top/2-1, 0)},
	} {
		if q, r, e := Quo(x.a, x.b); e != api.OK || q != x.q || r != x.r {
			t.Errorf("Quo(%v, %v) = %v, %v, %v, want %v, %v", x.a, x.b, q, r, e, x.q, x.r)
		}
	}
}
