package plane

import (
	"math"

	"mosaic/api"
)

// The spiral goes round in rings: in ring k, above 0, are the places the greater part of which is k or -k. It comes there from the corner k, -k, where it leaves, too; so its ring has four sides of 2 k steps, each the one ahead turned by a quarter.

// maxNumber is the greatest number of which the place is told.
const maxNumber = 1 << 40

// Spiral is a place on the spiral.
func Spiral(n int) (api.Place, api.Errno) {
	if n < 0 || n > maxNumber {
		return api.Place{}, api.ErrArg
	}
	k := ringOf(n)
	if k == 0 {
		return api.Place{}, api.OK
	}
	steps, side := n-before(k), 2*k
	z := complex(float64(k), float64(steps%side-k))
	return place(turned(z, steps/side)), api.OK
}

// ringOf is the ring of a number: those up to k have (2 k + 1) (2 k + 1) places.
func ringOf(n int) int {
	return (int(math.Sqrt(float64(n))) + 1) / 2
}

// before is the last number ahead of ring k, above 0.
func before(k int) int {
	return (2*k-1)*(2*k-1) - 1
}

// Unspiral is a place's number on the spiral.
func Unspiral(p api.Place) int {
	if !Check(p) {
		return -1
	}
	if p == (api.Place{}) {
		return 0
	}
	k := max(p.X, -p.X, p.Y, -p.Y)
	side := 0
	// Turned back it gets to the first side, since it is on one of the four; a side's first corner is the last one of the side ahead.
	for p.X != k || p.Y == -k {
		p = place(turned(number(p), -1))
		side++
	}
	return before(k) + 2*k*side + p.Y + k
}
