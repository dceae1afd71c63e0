package meter

import (
	"math"
	"math/big"
	"math/rand"
	"slices"
	"testing"

	"mosaic/api"
)

const most = 1 << 40

// 30.4: averages by hand, at the edges and of none.
func TestAverage(t *testing.T) {
	for _, x := range []struct {
		a     int
		rates []int
		want  int
	}{{100, []int{20, 20}, 81}, {100, nil, 100}, {100, []int{}, 100}, {0, []int{7}, 0}, {0, []int{8}, 1}, {1, []int{0}, 0}, {8, []int{0}, 7}, {7, []int{0}, 6}, {0, []int{0, 0}, 0}, {most, nil, most}, {most, []int{most, most}, most}, {most, []int{0}, most / 8 * 7}, {0, []int{most}, most / 8}, {0, []int{15, 0}, 0}, {10, []int{18, 10, 3}, 9}} {
		given := slices.Clone(x.rates)
		if got, e := Average(x.a, x.rates); got != x.want || e != api.OK {
			t.Errorf("Average(%d, %v) = %d, %v, want %d", x.a, x.rates, got, e, x.want)
		}
		if !slices.Equal(x.rates, given) {
			t.Errorf("the rates are changed: %v", x.rates)
		}
	}
}

// 30.4: what may not be, at any place.
func TestAverageOfWrong(t *testing.T) {
	for _, n := range []int{-1, -2, most + 1, 1 << 62, math.MaxInt, math.MinInt} {
		for i, x := range []struct {
			a     int
			rates []int
		}{{n, nil}, {n, []int{5}}, {5, []int{n}}, {5, []int{1, n}}, {5, []int{n, 1}}, {5, []int{1, n, 2}}, {n, []int{n}}} {
			if got, e := Average(x.a, x.rates); got != 0 || e != api.ErrArg {
				t.Errorf("%d of %d: %d, %v", i, n, got, e)
			}
		}
	}
}

// 30.4, 30.5: averages against those of numbers of any size; they lie between the least and the greatest.
func TestAverageLiesBetween(t *testing.T) {
	chance := rand.New(rand.NewSource(304))
	for range 5000 {
		top := []int{1, 9, 1000, most}[chance.Intn(4)]
		a := chance.Intn(top + 1)
		want, least, greatest := big.NewInt(int64(a)), a, a
		var rates []int
		for range chance.Intn(12) {
			r := chance.Intn(top + 1)
			rates = append(rates, r)
			least, greatest = min(least, r), max(greatest, r)
			want.Mul(want, big.NewInt(7))
			want.Add(want, big.NewInt(int64(r)))
			want.Div(want, big.NewInt(8))
		}
		got, e := Average(a, rates)
		if e != api.OK || int64(got) != want.Int64() || got < least || got > greatest {
			t.Errorf("Average(%d, %v) = %d, %v, want %v", a, rates, got, e, want)
		}
	}
}
