package block

import (
	"math"
	"slices"
	"strings"
	"testing"

	"mosaic/api"
)

// wrongSizes are sizes that may not be.
func wrongSizes() []int {
	return []int{0, -1, -64, api.MaxSize + 1, 128, 256, 1 << 32, 1<<32 + 1, math.MaxInt, math.MinInt}
}

// text is so many bytes of all kinds, none of which is 0, so that a cut is seen.
func text(long, shift int) string {
	b := make([]byte, long)
	for i := range b {
		b[i] = byte(1 + (i*7+i/255+shift)%255)
	}
	return string(b)
}

// texts are count texts of one size, of bytes of all kinds.
func texts(count, size int) []string {
	l := make([]string, count)
	for i := range l {
		b := []byte(text(size, i*31))
		b[i%size] = 0
		l[i] = string(b)
	}
	return l
}

// countByDocument counts pieces one by one.
func countByDocument(long, size int) int {
	if long < 1 || long > 4096 || size < 1 || size > 64 {
		return 0
	}
	n := 0
	for at := 0; at < long; at += size {
		n++
	}
	if n > 96 {
		return 0
	}
	return n
}

// cutByDocument takes byte after byte.
func cutByDocument(file string, size int) []string {
	var l []string
	for i := range len(file) {
		if i%size == 0 {
			l = append(l, "")
		}
		l[len(l)-1] += file[i : i+1]
	}
	for len(l[len(l)-1]) < size {
		l[len(l)-1] += "\x00"
	}
	return l
}

// sumByDocument adds bit by bit: the bit of a sum is 1, where an odd number of them have it.
func sumByDocument(l []string, size int) string {
	b := make([]byte, size)
	for place := range b {
		for bit := range 8 {
			ones := 0
			for _, s := range l {
				ones += int(s[place]) >> bit & 1
			}
			b[place] |= byte(ones%2) << bit
		}
	}
	return string(b)
}

// 7.1: each length by each size.
func TestCount(t *testing.T) {
	for long := -2; long <= api.MaxFile+2; long++ {
		for size := -1; size <= api.MaxSize+1; size++ {
			if got, want := Count(long, size), countByDocument(long, size); got != want {
				t.Fatalf("Count(%d, %d) = %d, want %d", long, size, got, want)
			}
		}
	}
}

// 7.1: the edges: files, sizes and counts that just may be, and that may not.
func TestCountAtTheEdges(t *testing.T) {
	for _, x := range []struct{ long, size, want int }{
		{5, 2, 3}, {4, 2, 2}, {6, 2, 3}, {1, 1, 1}, {1, 64, 1}, {64, 64, 1}, {65, 64, 2}, {96, 1, 96}, {97, 1, 0}, {192, 2, 96}, {193, 2, 0}, {4096, 64, 64}, {4095, 64, 64}, {4097, 64, 0},
		{4096, 43, 96}, {4096, 42, 0}, {4032, 42, 96}, {4033, 42, 0}, {0, 1, 0}, {-1, 1, 0}, {5, 0, 0}, {5, 65, 0},
		{math.MaxInt, 64, 0}, {math.MaxInt, math.MaxInt, 0}, {math.MinInt, 1, 0}, {math.MinInt, math.MinInt, 0}, {1, math.MaxInt, 0}, {1, math.MinInt, 0}, {1 << 32, 64, 0}, {1<<32 + 1, 1, 0},
	} {
		if got := Count(x.long, x.size); got != x.want {
			t.Errorf("Count(%d, %d) = %d, want %d", x.long, x.size, got, x.want)
		}
	}
}

// 7.1: the example, and files of all lengths at the edges of blocks, cut by each size.
func TestCut(t *testing.T) {
	if got, e := Cut("hello", 2); !slices.Equal(got, []string{"he", "ll", "o\x00"}) || e != api.OK {
		t.Errorf("Cut(hello, 2) = %q, %v", got, e)
	}
	for size := 1; size <= api.MaxSize; size++ {
		most := min(api.MaxBlocks*size, api.MaxFile)
		for _, long := range []int{1, 2, size - 1, size, size + 1, 2*size - 1, 2 * size, 2*size + 1, most - size, most - 1, most} {
			if long < 1 || long > most {
				continue
			}
			file := text(long, size)
			want := cutByDocument(file, size)
			if got, e := Cut(file, size); !slices.Equal(got, want) || e != api.OK || len(got) != Count(long, size) {
				t.Errorf("Cut of %d bytes by %d: %q, %v, want %q", long, size, got, e, want)
			}
		}
		if got, e := Cut(text(most+1, size), size); len(got) != 0 || e != api.ErrLong {
			t.Errorf("Cut of %d bytes by %d: %q, %v", most+1, size, got, e)
		}
	}
}

// 7.1: what can't be cut; a size that may not be comes ahead of a file that is too long.
func TestCutErrors(t *testing.T) {
	for _, size := range wrongSizes() {
		for _, file := range []string{"", "a", text(97, 0), text(5000, 0)} {
			if got, e := Cut(file, size); len(got) != 0 || e != api.ErrArg {
				t.Errorf("Cut of %d bytes by %d: %q, %v", len(file), size, got, e)
			}
		}
	}
	for _, x := range []struct {
		long, size int
		want       api.Errno
	}{
		{0, 1, api.ErrArg}, {0, 64, api.ErrArg}, {97, 1, api.ErrLong}, {193, 2, api.ErrLong}, {4097, 64, api.ErrLong}, {4096, 42, api.ErrLong}, {70000, 64, api.ErrLong},
		{96, 1, api.OK}, {192, 2, api.OK}, {4096, 64, api.OK}, {4096, 43, api.OK},
	} {
		if got, e := Cut(text(x.long, 0), x.size); e != x.want || e != api.OK && len(got) != 0 {
			t.Errorf("Cut of %d bytes by %d: %q, %v, want %v", x.long, x.size, got, e, x.want)
		}
	}
}

// R3: no two answers are one list.
func TestCutStandsAlone(t *testing.T) {
	a, _ := Cut("hello", 2)
	clear(a)
	if b, _ := Cut("hello", 2); !slices.Equal(b, []string{"he", "ll", "o\x00"}) {
		t.Errorf("two answers share memory: %q", b)
	}
}

// 7.2: blocks of the example, joined to each length.
func TestJoin(t *testing.T) {
	blocks := []string{"he", "ll", "o\x00"}
	for long := -2; long < 10; long++ {
		want, err := "", api.ErrBad
		if long == 5 || long == 6 {
			want, err = "hello\x00"[:long], api.OK
		}
		if got, e := Join(blocks, long); got != want || e != err {
			t.Errorf("Join(%q, %d) = %q, %v, want %q, %v", blocks, long, got, e, want, err)
		}
	}
	if !slices.Equal(blocks, []string{"he", "ll", "o\x00"}) {
		t.Errorf("the blocks are changed: %q", blocks)
	}
}

// 7.2: what can't be joined, and which error comes first.
func TestJoinErrors(t *testing.T) {
	many := func(n int, s string) []string { return slices.Repeat([]string{s}, n) }
	for i, x := range []struct {
		blocks []string
		long   int
		want   api.Errno
	}{
		{nil, 0, api.ErrArg}, {nil, 1, api.ErrArg}, {[]string{}, 5, api.ErrArg}, {nil, math.MinInt, api.ErrArg},
		{[]string{""}, 1, api.ErrArg}, {[]string{"", ""}, 0, api.ErrArg}, {[]string{"", "a"}, 1, api.ErrArg},
		{[]string{text(65, 0)}, 65, api.ErrArg}, {[]string{text(64, 0)}, 64, api.OK}, {[]string{text(128, 0)}, 64, api.ErrArg},
		{[]string{"he", "l", "lo"}, 5, api.ErrArg}, {[]string{"he", "llo"}, 5, api.ErrArg}, {[]string{"h", "el"}, 3, api.ErrArg}, {[]string{"he", "ll", ""}, 4, api.ErrArg},
		{many(96, "a"), 96, api.OK}, {many(97, "a"), 97, api.ErrLong}, {many(97, "a"), 96, api.ErrLong}, {many(97, "a"), 0, api.ErrLong}, {many(1000, "ab"), 2000, api.ErrLong},
		{append(many(97, "a"), "ab"), 97, api.ErrArg}, {many(97, ""), 97, api.ErrArg}, {many(97, text(65, 0)), 97, api.ErrArg},
		{many(64, text(64, 0)), 4096, api.OK}, {many(65, text(64, 0)), 4160, api.ErrBad}, {many(65, Zero(64)), 4096, api.ErrBad}, {many(65, Zero(64)), 4097, api.ErrBad}, {many(96, Zero(64)), 6144, api.ErrBad},
		{[]string{"ab"}, 2, api.OK}, {[]string{"ab"}, 1, api.ErrBad}, {[]string{"a\x00"}, 1, api.OK}, {[]string{"ab"}, 3, api.ErrBad}, {[]string{"ab"}, 0, api.ErrBad}, {[]string{"\x00"}, 0, api.ErrBad},
		{[]string{"ab", "\x00\x00"}, 2, api.ErrBad}, {[]string{"ab", "\x00\x00"}, 3, api.OK}, {[]string{"ab", "\x00\x00"}, 4, api.OK}, {[]string{"ab", "c\x80"}, 3, api.ErrBad}, {[]string{"ab", "c\x01"}, 3, api.ErrBad},
		{[]string{"abc", "d\x00e"}, 4, api.ErrBad}, {[]string{"abc", "de\x00"}, 4, api.ErrBad}, {[]string{"abc", "d\x00\xff"}, 4, api.ErrBad}, {[]string{"abc", "d\x00\x00"}, 4, api.OK},
		{[]string{"ab"}, math.MaxInt, api.ErrBad}, {[]string{"ab"}, math.MinInt, api.ErrBad}, {[]string{"ab"}, -1, api.ErrBad}, {[]string{"ab"}, 1<<32 + 2, api.ErrBad},
	} {
		want := ""
		if x.want == api.OK {
			want = strings.Join(x.blocks, "")[:x.long]
		}
		if got, e := Join(x.blocks, x.long); got != want || e != x.want {
			t.Errorf("%d: Join to %d: %q, %v, want %q, %v", i, x.long, got, e, want, x.want)
		}
	}
}

// 7.2: each byte behind the file is looked at.
func TestJoinLooksBehindTheFile(t *testing.T) {
	for _, x := range []struct{ long, size int }{{65, 64}, {129, 64}, {10, 64}, {1, 2}, {33, 8}} {
		blocks, _ := Cut(text(x.long, 3), x.size)
		last := blocks[len(blocks)-1]
		for at := x.long - (len(blocks)-1)*x.size; at < x.size; at++ {
			for _, c := range []byte{1, 0x80, 0xff, ' '} {
				b := []byte(last)
				b[at] = c
				blocks[len(blocks)-1] = string(b)
				if got, e := Join(blocks, x.long); got != "" || e != api.ErrBad {
					t.Errorf("%d bytes by %d, %d at %d of the last block: %q, %v", x.long, x.size, c, at, got, e)
				}
			}
		}
	}
}

// 7.3: each byte with each other one.
func TestXor(t *testing.T) {
	if got, e := Xor("\x0f", "\x3c"); got != "\x33" || e != api.OK {
		t.Errorf("Xor(0f, 3c) = %x, %v", got, e)
	}
	for a := range 256 {
		for b := range 256 {
			l := []string{string([]byte{byte(a)}), string([]byte{byte(b)})}
			if got, e := Xor(l[0], l[1]); got != sumByDocument(l, 1) || e != api.OK {
				t.Errorf("Xor(%x, %x) = %x, %v", l[0], l[1], got, e)
			}
		}
	}
}

// 7.3: texts of any length, of no bytes too; and such as are not of one length.
func TestXorOfLengths(t *testing.T) {
	for _, long := range []int{0, 1, 2, 63, 64, 65, 1000, 100000} {
		l := []string{text(long, 1), text(long, 40)}
		if got, e := Xor(l[0], l[1]); got != sumByDocument(l, long) || e != api.OK {
			t.Errorf("Xor of %d bytes: %v", long, e)
		}
		for _, other := range []string{text(long+1, 0), text(long, 0) + text(64, 0), text(max(long, 1)-1, 0)} {
			if len(other) == long {
				continue
			}
			if got, e := Xor(l[0], other); got != "" || e != api.ErrArg {
				t.Errorf("Xor of %d and %d bytes: %q, %v", long, len(other), got, e)
			}
			if got, e := Xor(other, l[0]); got != "" || e != api.ErrArg {
				t.Errorf("Xor of %d and %d bytes: %q, %v", len(other), long, got, e)
			}
		}
	}
}

// 7.3: sums of few and of many blocks, of each size; that of none is of bytes 0.
func TestSum(t *testing.T) {
	for size := 1; size <= api.MaxSize; size++ {
		for _, count := range []int{0, 1, 2, 3, 7, 96, 300} {
			l := texts(count, size)
			kept := slices.Clone(l)
			if got, e := Sum(l, size); got != sumByDocument(l, size) || e != api.OK {
				t.Errorf("Sum of %d blocks of %d bytes: %x, %v", count, size, got, e)
			}
			if !slices.Equal(kept, l) {
				t.Errorf("the blocks are changed")
			}
		}
		if got, e := Sum(nil, size); got != Zero(size) || e != api.OK {
			t.Errorf("Sum of none, of %d bytes: %x, %v", size, got, e)
		}
	}
}

// 7.3: sizes that may not be, and blocks that are not of the size, wherever they stand.
func TestSumErrors(t *testing.T) {
	for _, size := range wrongSizes() {
		for _, l := range [][]string{nil, {""}, {"a"}, {"a", "b"}, {text(65, 0)}, {text(128, 0)}} {
			if got, e := Sum(l, size); got != "" || e != api.ErrArg {
				t.Errorf("Sum(%q, %d) = %q, %v", l, size, got, e)
			}
		}
	}
	for _, size := range []int{1, 2, 63, 64} {
		for _, long := range []int{0, size - 1, size + 1, 2 * size, 300} {
			for at := range 4 {
				l := texts(4, size)
				l[at] = text(long, 0)
				if got, e := Sum(l, size); got != "" || e != api.ErrArg {
					t.Errorf("Sum of blocks of %d bytes, one of %d: %q, %v", size, long, got, e)
				}
			}
		}
	}
}

// 7.3: bytes 0, as many as a size says.
func TestZero(t *testing.T) {
	for size := 1; size <= api.MaxSize; size++ {
		if got := Zero(size); got != strings.Repeat("\x00", size) {
			t.Errorf("Zero(%d) = %x", size, got)
		}
	}
	for _, size := range wrongSizes() {
		if got := Zero(size); got != "" {
			t.Errorf("Zero(%d) = %x", size, got)
		}
	}
}

// 7.3: which texts are blocks of a size.
func TestIs(t *testing.T) {
	for size := -1; size <= api.MaxSize+2; size++ {
		for long := range api.MaxSize + 3 {
			want := size >= 1 && size <= 64 && long == size
			if got := Is(text(long, 0), size); got != want {
				t.Errorf("Is of %d bytes, %d: %v", long, size, got)
			}
		}
	}
	for _, size := range wrongSizes() {
		if Is("", size) || Is("a", size) || Is(text(max(0, min(size, 256)), 0), size) {
			t.Errorf("there is a block of size %d", size)
		}
	}
}

// 7.4: a file that is cut and joined is as it was, also one with bytes 0 at its end, which no other length has.
func TestWhatIsCutIsJoined(t *testing.T) {
	for size := 1; size <= api.MaxSize; size++ {
		for long := 1; Count(long, size) > 0; long += 1 + long/7 {
			for _, file := range []string{text(long, long), text(long-1, 0) + "\x00", strings.Repeat("\x00", long)} {
				blocks, _ := Cut(file, size)
				if got, e := Join(blocks, long); got != file || e != api.OK {
					t.Errorf("%d bytes by %d: %q, %v", long, size, got, e)
				}
			}
		}
	}
}

// 7.4: sums do not hang on the order, nor on how they are put together; what is added twice is gone.
func TestSumsInAnyOrder(t *testing.T) {
	for _, size := range []int{1, 2, 17, 64} {
		l := texts(9, size)
		all, _ := Sum(l, size)
		turned := slices.Clone(l)
		slices.Reverse(turned)
		for range l {
			turned = append(turned[2:], turned[:2]...)
			if got, e := Sum(turned, size); got != all || e != api.OK {
				t.Errorf("another order: %x, want %x", got, all)
			}
		}
		a, _ := Sum(l[:4], size)
		b, _ := Sum(l[4:], size)
		if got, e := Xor(a, b); got != all || e != api.OK {
			t.Errorf("in parts: %x, want %x", got, all)
		}
		if got, e := Xor(all, b); got != a || e != api.OK {
			t.Errorf("what is added twice: %x, want %x", got, a)
		}
		if got, e := Sum(append(slices.Clone(l), l...), size); got != Zero(size) || e != api.OK {
			t.Errorf("all of them twice: %x", got)
		}
	}
}
