package plane

import (
	"math"
	"testing"

	"mosaic/api"
)

// walk goes along the spiral as the document says it, step by step, as far as f wants it.
func walk(f func(n int, p api.Place) bool) {
	p, n := at(0, 0), 0
	if !f(n, p) {
		return
	}
	for leg := 1; ; leg++ {
		for turn := range 2 {
			for range leg {
				step := 1 // odd legs go to the right and upwards, even ones to the left and down
				if leg%2 == 0 {
					step = -1
				}
				if turn == 0 {
					p.X += step
				} else {
					p.Y += step
				}
				n++
				if !f(n, p) {
					return
				}
			}
		}
	}
}

// corner is the number of the place where the two legs of a length end: twice 1, 2 and so on up to it.
func corner(leg int) int {
	return leg * (leg + 1)
}

// 17.4, 17.5: the spiral, one step at a time, and back.
func TestSpiral(t *testing.T) {
	walk(func(n int, p api.Place) bool {
		if got, e := Spiral(n); e != api.OK || got != p {
			t.Fatalf("Spiral(%d) = %v, %v, want %v", n, got, e, p)
		}
		if got := Unspiral(p); got != n {
			t.Fatalf("Unspiral(%v) = %d, want %d", p, got, n)
		}
		return n < 300000
	})
	for n, want := range []api.Place{at(0, 0), at(1, 0), at(1, 1), at(0, 1), at(-1, 1), at(-1, 0)} {
		if p, e := Spiral(n); e != api.OK || p != want {
			t.Errorf("the example: Spiral(%d) = %v, %v, want %v", n, p, e, want)
		}
	}
}

// 17.4, 17.5: about corners far out, where a square root that is a bit off would tell: the legs' ends, and neighbours one step apart.
func TestSpiralFarOut(t *testing.T) {
	for _, k := range []int{100, 1000, 1023, 1024, 46340, 46341, 65535, 65536, 262143, 262144, 524286, 524287} {
		for _, x := range []struct {
			n    int
			want api.Place
		}{
			{corner(2 * k), at(-k, -k)}, {corner(2*k - 1), at(k, k)}, {corner(2*k) - 2*k, at(-k, k)}, {corner(2*k-1) + 1, at(k-1, k)}, {corner(2*k) + 2*k, at(k, -k)}, {corner(2*k) + 2*k + 1, at(k+1, -k)}, {corner(2*k-1) - 2*k + 1, at(k, 1-k)},
			{(2*k+1)*(2*k+1) - 1, at(k, -k)}, {(2*k + 1) * (2*k + 1), at(k+1, -k)}, {4*k*k - 1, at(1-k, k)}, {4 * k * k, at(-k, k)}, {4*k*k + 1, at(-k, k-1)},
		} {
			if p, e := Spiral(x.n); e != api.OK || p != x.want {
				t.Errorf("Spiral(%d) = %v, %v, want %v", x.n, p, e, x.want)
			}
			if n := Unspiral(x.want); n != x.n {
				t.Errorf("Unspiral(%v) = %d, want %d", x.want, n, x.n)
			}
			neighbours(t, x.n)
		}
	}
	for n := 0; n < 1<<40; n += 1<<40/5000 + n%977 {
		neighbours(t, n)
	}
}

// neighbours asks that a number's place is of that number, and one step from those of the numbers about it.
func neighbours(t *testing.T, n int) {
	t.Helper()
	last := api.Place{}
	for i := max(0, n-3); i <= min(n+3, 1<<40); i++ {
		p, e := Spiral(i)
		if e != api.OK || Unspiral(p) != i {
			t.Errorf("Spiral(%d) = %v, %v, of which the number is %d", i, p, e, Unspiral(p))
		}
		if i > max(0, n-3) && Dist(p, last) != 1 {
			t.Errorf("Spiral(%d) = %v, behind %v", i, p, last)
		}
		last = p
	}
}

// 17.4: the edges: numbers from 0 to 2^40, places up to the greatest.
func TestSpiralEdges(t *testing.T) {
	for _, n := range []int{-1, -2, 1<<40 + 1, 1 << 41, 1 << 42, 1 << 53, 1 << 62, math.MaxInt, math.MinInt} {
		if p, e := Spiral(n); p != at(0, 0) || e != api.ErrArg {
			t.Errorf("Spiral(%d) = %v, %v", n, p, e)
		}
	}
	// 2^40 is the even square of 2^20: a corner of ring 2^19.
	if p, e := Spiral(1 << 40); e != api.OK || p != at(-1<<19, 1<<19) {
		t.Errorf("Spiral(2^40) = %v, %v", p, e)
	}
	for p, want := range map[api.Place]int{
		at(top, -top): (2*top+1)*(2*top+1) - 1, at(top, 1-top): (2*top - 1) * (2*top - 1), at(top, top): corner(2*top - 1), at(-top, -top): corner(2 * top), at(-top, top): corner(2*top) - 2*top, at(0, top): corner(2*top-1) + top, at(-top, 0): corner(2*top) - top, at(0, -top): corner(2*top) + top,
	} {
		if n := Unspiral(p); n != want {
			t.Errorf("Unspiral(%v) = %d, want %d", p, n, want)
		}
	}
}

// 17.4, 17.5: places about corners and the middles of sides have numbers that are those of neighbours, beyond those that Spiral tells, too.
func TestUnspiralOfEachPlaceOfARing(t *testing.T) {
	for _, k := range []int{1, 2, 3, 50, 777} {
		seen := map[int]bool{}
		for i := -k; i <= k; i++ {
			for _, p := range []api.Place{at(i, k), at(i, -k), at(k, i), at(-k, i)} {
				n := Unspiral(p)
				if n < (2*k-1)*(2*k-1) || n >= (2*k+1)*(2*k+1) {
					t.Errorf("Unspiral(%v) = %d", p, n)
				}
				seen[n] = true
			}
		}
		if len(seen) != 8*k {
			t.Errorf("%d numbers in ring %d", len(seen), k)
		}
	}
}
