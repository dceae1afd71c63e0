package gauss

import (
	"math/bits"

	"mosaic/api"
)

const (
	wordBits = 64
	words    = (api.MaxAll + wordBits - 1) / wordBits
)

// row is a row's numbers, as bits, the least one in the lowest bit of the first word: an array, so that rows are copied and compared as wholes.
type row [words]uint64

// isRow tells whether numbers are a row below n.
func isRow(n int, numbers []int) bool {
	least := 0
	for _, i := range numbers {
		if i < least || i >= n {
			return false
		}
		least = i + 1
	}
	return true
}

func rowOf(numbers ...int) row {
	var r row
	for _, i := range numbers {
		r[i/wordBits] |= 1 << (i % wordBits)
	}
	return r
}

func (r row) has(i int) bool {
	return r[i/wordBits]>>(i%wordBits)&1 == 1
}

func (r row) plus(other row) row {
	for k := range r {
		r[k] ^= other[k]
	}
	return r
}

// numbers are a row's numbers, rising.
func (r row) numbers() []int {
	var l []int
	for k, word := range r {
		for ; word != 0; word &= word - 1 {
			l = append(l, k*wordBits+bits.TrailingZeros64(word))
		}
	}
	return l
}

// only is the number that a row has alone.
func (r row) only() (int, bool) {
	for i := range api.MaxAll {
		if r.has(i) {
			return i, r == rowOf(i)
		}
	}
	return 0, false
}
