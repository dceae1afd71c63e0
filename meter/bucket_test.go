package meter

import (
	"math"
	"math/rand"
	"testing"

	"mosaic/api"
)

// need asks for an error.
func need(t *testing.T, what string, got, want api.Errno) {
	t.Helper()
	if got != want {
		t.Errorf("%s: %v, want %v", what, got, want)
	}
}

// wrongRates are neither rates nor sizes nor quanta.
func wrongRates() []int {
	return []int{0, -1, 65537, 1 << 17, 1<<32 + 1, math.MaxInt, math.MinInt}
}

// The limits are those that the chapter says.
func TestLimits(t *testing.T) {
	if MaxRate != 65536 || MaxWeight != 16 || MaxWaits != 100 || MaxCredit != 16777216 {
		t.Errorf("the limits: %d, %d, %d, %d", MaxRate, MaxWeight, MaxWaits, MaxCredit)
	}
}

// 30.1: of which rates and sizes there are buckets; they are full.
func TestNewBucket(t *testing.T) {
	for _, rate := range []int{1, 2, 65535, 65536} {
		for _, size := range []int{1, 2, 65535, 65536} {
			if b := NewBucket(rate, size); b == nil || b.Level() != size {
				t.Errorf("NewBucket(%d, %d): %v", rate, size, b)
			}
		}
	}
	for _, n := range wrongRates() {
		if NewBucket(n, 5) != nil || NewBucket(5, n) != nil || NewBucket(n, n) != nil {
			t.Errorf("there is a bucket of %d", n)
		}
	}
}

// 30.1: what is taken, and what is not: ErrArg, ErrOver, ErrFull; an error takes nothing.
func TestTake(t *testing.T) {
	b := NewBucket(3, 10)
	for _, x := range []struct {
		n     int
		want  api.Errno
		level int
	}{{11, api.ErrOver, 10}, {-1, api.ErrArg, 10}, {0, api.OK, 10}, {4, api.OK, 6}, {7, api.ErrFull, 6}, {10, api.ErrFull, 6}, {11, api.ErrOver, 6}, {math.MaxInt, api.ErrOver, 6}, {math.MinInt, api.ErrArg, 6}, {6, api.OK, 0}, {1, api.ErrFull, 0}, {0, api.OK, 0}} {
		need(t, "Take", b.Take(x.n), x.want)
		if b.Level() != x.level {
			t.Errorf("behind Take(%d) the level is %d, want %d", x.n, b.Level(), x.level)
		}
	}
	b = NewBucket(3, 10)
	need(t, "Take of all", b.Take(10), api.OK)
	if b.Level() != 0 {
		t.Errorf("the level is %d", b.Level())
	}
}

// 30.1: with each tick there is rate more, at most the size.
func TestTick(t *testing.T) {
	b := NewBucket(3, 10)
	b.Tick()
	if b.Level() != 10 {
		t.Errorf("a full bucket has %d", b.Level())
	}
	b.Take(10)
	for i, want := range []int{3, 6, 9, 10, 10} {
		b.Tick()
		if b.Level() != want {
			t.Errorf("behind tick %d the level is %d, want %d", i, b.Level(), want)
		}
	}
	b = NewBucket(65536, 7)
	b.Take(7)
	b.Tick()
	if b.Level() != 7 {
		t.Errorf("the level is %d", b.Level())
	}
}

// ticked is after how many ticks something can be taken of a bucket that is like another one; -1: never.
func ticked(b *Bucket, n int) int {
	like := *b
	for ticks := range 70000 {
		if like.Take(max(n, 0)) == api.OK {
			return ticks
		}
		like.Tick()
	}
	return -1
}

// 30.1: how many ticks must go by, against ticks that do.
func TestWait(t *testing.T) {
	for _, x := range [][2]int{{1, 1}, {3, 10}, {1, 10}, {10, 10}, {11, 10}, {5, 10}, {65536, 3}, {7, 65536}, {65536, 65536}, {65535, 65536}} {
		for _, taken := range []int{0, 1, 3, x[1] / 2, x[1]} {
			b := NewBucket(x[0], x[1])
			b.Take(taken)
			for _, n := range []int{math.MinInt, -1, 0, 1, 2, 5, 7, 9, x[1] - 1, x[1], x[1] + 1, b.Level(), b.Level() + 1, 1 << 17, math.MaxInt} {
				level := b.Level()
				if got, want := b.Wait(n), ticked(b, n); n <= x[1] && got != want || n > x[1] && got != -1 || b.Level() != level {
					t.Errorf("rate and size %v, level %d: Wait(%d) = %d, want %d", x, level, n, got, want)
				}
			}
		}
	}
	b := NewBucket(1, 65536)
	b.Take(65536)
	if b.Wait(65536) != 65536 || b.Wait(65537) != -1 || b.Wait(0) != 0 {
		t.Errorf("Wait: %d, %d, %d", b.Wait(65536), b.Wait(65537), b.Wait(0))
	}
}

// 30.1: a nil bucket.
func TestNilBucket(t *testing.T) {
	var b *Bucket
	b.Tick()
	for _, n := range []int{0, 1, -1, math.MaxInt, math.MinInt} {
		if b.Take(n) != api.ErrArg || b.Level() != 0 || b.Wait(n) != -1 {
			t.Errorf("of a nil bucket: %v, %d, %d", b.Take(n), b.Level(), b.Wait(n))
		}
	}
}

// 30.1, 30.5: in any time a bucket gives at most its size, and its rate for each tick; its level is from 0 to its size.
func TestBucketGivesNoMore(t *testing.T) {
	chance := rand.New(rand.NewSource(30))
	for range 300 {
		rate, size := 1+chance.Intn(20), 1+chance.Intn(60)
		b := NewBucket(rate, size)
		level, given, ticks := size, 0, 0
		for range 300 {
			if chance.Intn(3) == 0 {
				b.Tick()
				ticks++
				if level += rate; level > size {
					level = size
				}
			}
			n := chance.Intn(size+3) - 1
			switch {
			case n < 0:
				need(t, "Take", b.Take(n), api.ErrArg)
			case n > size:
				need(t, "Take", b.Take(n), api.ErrOver)
			case n > level:
				need(t, "Take", b.Take(n), api.ErrFull)
			default:
				need(t, "Take", b.Take(n), api.OK)
				level, given = level-n, given+n
			}
			if b.Level() != level || given > size+rate*ticks {
				t.Fatalf("the level is %d, want %d; %d were given in %d ticks of %d, %d", b.Level(), level, given, ticks, rate, size)
			}
		}
	}
}
