package inact

import (
	"slices"

	"mosaic/api"
	"mosaic/block"
)

// reduce makes of equations some that have the same sums, each of which has none of the first numbers of those ahead of it. They agree, unless one of no numbers is left whose bytes are not all 0.
func reduce(l []api.Eqn, size int) (kept []api.Eqn, agree bool) {
	for _, x := range l {
		x = less(x, kept, size)
		if len(x.Idx) > 0 {
			kept = append(kept, x)
		} else if x.Data != block.Zero(size) {
			return nil, false
		}
	}
	return kept, true
}

// less takes out of an equation the first numbers of those that are kept. None that was taken out comes in again, since those behind do not have it.
func less(x api.Eqn, kept []api.Eqn, size int) api.Eqn {
	for _, by := range kept {
		if slices.Contains(x.Idx, by.Idx[0]) {
			x = sum(size, x, by)
		}
	}
	return x
}

// sum adds up equations whose Data are of a size: the numbers that an odd number of them has, rising, and their Data.
func sum(size int, l ...api.Eqn) api.Eqn {
	var odd [api.MaxAll]bool
	var parts []string
	for _, x := range l {
		for _, i := range x.Idx {
			odd[i] = !odd[i]
		}
		parts = append(parts, x.Data)
	}
	var numbers []int
	for i, is := range odd {
		if is {
			numbers = append(numbers, i)
		}
	}
	data, _ := block.Sum(parts, size)
	return api.Eqn{Idx: numbers, Data: data}
}
