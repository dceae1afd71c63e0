package meter

import "mosaic/api"

// Bucket fills with time.
type Bucket struct {
	rate  int
	size  int
	level int
}

// NewBucket is a full bucket.
func NewBucket(rate, size int) *Bucket {
	if !isFrom(1, rate, MaxRate) || !isFrom(1, size, MaxRate) {
		return nil
	}
	return &Bucket{rate: rate, size: size, level: size}
}

// Tick lets time go on.
func (b *Bucket) Tick() {
	if b != nil {
		b.level = min(b.level+b.rate, b.size)
	}
}

// Take takes out of a bucket.
func (b *Bucket) Take(n int) api.Errno {
	switch {
	case b == nil || n < 0:
		return api.ErrArg
	case n > b.size:
		return api.ErrOver
	case n > b.level:
		return api.ErrFull
	}
	b.level -= n
	return api.OK
}

// Level is how much there is.
func (b *Bucket) Level() int {
	if b == nil {
		return 0
	}
	return b.level
}

// Wait is how many ticks must go by.
func (b *Bucket) Wait(n int) int {
	switch {
	case b == nil || n > b.size:
		return -1
	case n <= b.level:
		return 0
	}
	return (n - b.level + b.rate - 1) / b.rate
}
