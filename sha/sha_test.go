package sha

import (
	"crypto/sha256"
	"encoding/binary"
	"encoding/hex"
	"fmt"
	"math/big"
	mathbits "math/bits"
	"strings"
	"testing"

	"mosaic/api"
)

// sample is n bytes of all values, without a short period.
func sample(n int) string {
	b := make([]byte, n)
	x := uint32(12345)
	for i := range b {
		x = x*1664525 + 1013904223
		b[i] = byte(x >> 24)
	}
	return string(b)
}

func librarySum(s string) string {
	d := sha256.Sum256([]byte(s))
	return string(d[:])
}

// edges are the lengths at which the padding or the blocks change, and the greatest one.
func edges() []int {
	l := []int{1000, 4096, 65471, 65472, 65473, 65527, 65528, api.MaxData - 1, api.MaxData}
	for n := range 200 {
		l = append(l, n)
	}
	return l
}

// rootBits is the first 32 bits of the fractional part of the root of p: the greatest x with x^power <= p * 2^(32 power), below 2^32.
func rootBits(p int64, power int64) uint32 {
	goal := new(big.Int).Lsh(big.NewInt(p), uint(32*power))
	low, high := big.NewInt(0), new(big.Int).Lsh(big.NewInt(p), 32)
	for low.Cmp(high) < 0 {
		mid := new(big.Int).Add(low, high)
		mid.Add(mid, big.NewInt(1)).Rsh(mid, 1)
		if new(big.Int).Exp(mid, big.NewInt(power), nil).Cmp(goal) <= 0 {
			low = mid
		} else {
			high = mid.Sub(mid, big.NewInt(1))
		}
	}
	return uint32(low.Uint64())
}

func firstPrimes(n int) []int64 {
	var l []int64
	for p := int64(2); len(l) < n; p++ {
		if big.NewInt(p).ProbablyPrime(20) {
			l = append(l, p)
		}
	}
	return l
}

// mixByDocument follows the chapter word by word, with constants out of the roots.
func mixByDocument(state [8]uint32, block string) [8]uint32 {
	rot := func(x uint32, n int) uint32 { return mathbits.RotateLeft32(x, 32-n) }
	var w [64]uint32
	for t := range 64 {
		if t < 16 {
			w[t] = binary.BigEndian.Uint32([]byte(block[4*t:]))
			continue
		}
		x, y := w[t-15], w[t-2]
		w[t] = (rot(y, 17) ^ rot(y, 19) ^ (y >> 10)) + w[t-7] + (rot(x, 7) ^ rot(x, 18) ^ (x >> 3)) + w[t-16]
	}
	v := state
	for t, p := range firstPrimes(64) {
		a, b, c, e, f, g := v[0], v[1], v[2], v[4], v[5], v[6]
		t1 := v[7] + (rot(e, 6) ^ rot(e, 11) ^ rot(e, 25)) + ((e & f) ^ (^e & g)) + rootBits(p, 3) + w[t]
		t2 := (rot(a, 2) ^ rot(a, 13) ^ rot(a, 22)) + ((a & b) ^ (a & c) ^ (b & c))
		v = [8]uint32{t1 + t2, v[0], v[1], v[2], v[3] + t1, v[4], v[5], v[6]}
	}
	for i := range v {
		v[i] += state[i]
	}
	return v
}

// 1.1: the sum of bytes, at the chapter's examples.
func TestSumExamples(t *testing.T) {
	for s, want := range map[string]string{
		"":    "e3b0c44298fc1c149afbf4c8996fb92427ae41e4649b934ca495991b7852b855",
		"abc": "ba7816bf8f01cfea414140de5dae2223b00361a396177a9cb410ff61f20015ad",
	} {
		if got := hex.EncodeToString([]byte(Sum(s))); got != want {
			t.Errorf("Sum(%q) = %s, want %s", s, got, want)
		}
	}
}

// 1.1: the sum at all lengths where something changes, up to the greatest one.
func TestSumAtEdges(t *testing.T) {
	for _, n := range edges() {
		s := sample(n)
		if got, want := Sum(s), librarySum(s); got != want || len(got) != api.DigestBytes {
			t.Errorf("Sum of %d bytes = %x, want %x", n, got, want)
		}
	}
}

// 1.1: of too many bytes there is no sum.
func TestSumOfTooManyBytes(t *testing.T) {
	for _, n := range []int{api.MaxData + 1, api.MaxData + 64, 1 << 20} {
		if got := Sum(strings.Repeat("a", n)); got != "" {
			t.Errorf("Sum of %d bytes = %x, want none", n, got)
		}
	}
}

// 1.1: the padding is a byte 80, as few bytes 0 as can be, and the number of bits.
func TestPad(t *testing.T) {
	for _, n := range edges() {
		p := Pad(n)
		if len(p) < 9 || len(p) > 72 || (n+len(p))%api.SumBytes != 0 {
			t.Fatalf("Pad(%d) has %d bytes", n, len(p))
		}
		if p[0] != 0x80 || strings.Trim(p[1:len(p)-8], "\x00") != "" {
			t.Errorf("Pad(%d) = %x", n, p)
		}
		if got := binary.BigEndian.Uint64([]byte(p[len(p)-8:])); got != uint64(8*n) {
			t.Errorf("Pad(%d) tells of %d bits", n, got)
		}
	}
}

// 1.1: of numbers that may not be there is no padding.
func TestPadOfWrongNumbers(t *testing.T) {
	const most = int(^uint(0) >> 1)
	for _, n := range []int{-1, -64, -most - 1, api.MaxData + 1, api.MaxData + 64, most} {
		if p := Pad(n); p != "" {
			t.Errorf("Pad(%d) = %x, want none", n, p)
		}
	}
}

// 1.1: H0 to H7 are the first bits of the square roots of the first primes.
func TestStart(t *testing.T) {
	for i, p := range firstPrimes(8) {
		if got, want := Start()[i], rootBits(p, 2); got != want {
			t.Errorf("H%d = %08x, want %08x", i, got, want)
		}
	}
}

// 1.1: mixing, into the first state and into others.
func TestMix(t *testing.T) {
	states := [][8]uint32{
		Start(),
		{},
		{^uint32(0), ^uint32(0), ^uint32(0), ^uint32(0), ^uint32(0), ^uint32(0), ^uint32(0), ^uint32(0)},
		{1, 2, 3, 4, 5, 6, 7, 1 << 31},
	}
	blocks := []string{strings.Repeat("\x00", 64), strings.Repeat("\xff", 64), sample(64), "\x80" + sample(63)}
	for _, state := range states {
		for _, block := range blocks {
			before := state
			got, e := Mix(state, block)
			if want := mixByDocument(state, block); e != api.OK || got != want {
				t.Errorf("Mix(%x, %x) = %x, %v, want %x", state, block, got, e, want)
			}
			if state != before {
				t.Errorf("Mix changed the state that it was given")
			}
		}
	}
}

// 1.1: a block of other than 64 bytes is none, and leaves no state.
func TestMixOfNoBlock(t *testing.T) {
	for _, n := range []int{0, 1, 63, 65, 128} {
		if got, e := Mix(Start(), sample(n)); e != api.ErrArg || got != [8]uint32{} {
			t.Errorf("Mix of %d bytes = %x, %v", n, got, e)
		}
	}
}

// 1.2: nothing was written at first; sums may be asked at any time, twice too, and the writing goes on.
func TestHashGoesOn(t *testing.T) {
	h, all := New(), ""
	for i := range 300 {
		for range 2 {
			if h.Sum() != librarySum(all) || h.Len() != len(all) {
				t.Fatalf("after %d bytes: Sum %x, Len %d", len(all), h.Sum(), h.Len())
			}
		}
		s := sample(i % 131)
		if e := h.Write(s); e != api.OK {
			t.Fatalf("Write: %v", e)
		}
		all += s
	}
}

// 1.2: what would be too much is refused, and changes nothing; up to the bound there is room.
func TestHashBound(t *testing.T) {
	all := sample(api.MaxData)
	h := New()
	if e := h.Write(all + "x"); e != api.ErrLong || h.Len() != 0 || h.Sum() != librarySum("") {
		t.Errorf("too much at first: %v, Len %d", e, h.Len())
	}
	h.Write(all[:60001])
	for _, n := range []int{api.MaxData - 60000, api.MaxData, 1 << 20} {
		if e := h.Write(strings.Repeat("z", n)); e != api.ErrLong || h.Len() != 60001 || h.Sum() != librarySum(all[:60001]) {
			t.Errorf("%d more: %v, Len %d", n, e, h.Len())
		}
	}
	if e := h.Write(all[60001:]); e != api.OK || h.Len() != api.MaxData || h.Sum() != librarySum(all) {
		t.Errorf("up to the bound: %v, Len %d", e, h.Len())
	}
	if e := h.Write("x"); e != api.ErrLong || h.Len() != api.MaxData || h.Sum() != librarySum(all) {
		t.Errorf("one above: %v, Len %d", e, h.Len())
	}
	if e := h.Write(""); e != api.OK || h.Sum() != librarySum(all) {
		t.Errorf("nothing at the bound: %v", e)
	}
}

// 1.2: two sums have nothing in common.
func TestHashesStandApart(t *testing.T) {
	a, b := New(), New()
	a.Write("abc")
	b.Write("d")
	if a.Sum() != librarySum("abc") || b.Sum() != librarySum("d") || a.Len() != 3 || b.Len() != 1 {
		t.Errorf("sums %x and %x", a.Sum(), b.Sum())
	}
}

// 1.2: a nil one.
func TestNilHash(t *testing.T) {
	var h *Hash
	for _, s := range []string{"", "abc", strings.Repeat("a", api.MaxData+1)} {
		if e := h.Write(s); e != api.ErrArg {
			t.Errorf("Write of %d bytes: %v", len(s), e)
		}
	}
	if h.Sum() != "" || h.Len() != 0 {
		t.Errorf("Sum %x, Len %d", h.Sum(), h.Len())
	}
}

// 1.3: two digits for every byte, and back.
func TestHex(t *testing.T) {
	if Hex("") != "" || Hex("\x00\x0a\xa0\xff9") != "000aa0ff39" {
		t.Errorf("Hex = %q", Hex("\x00\x0a\xa0\xff9"))
	}
	for b := range 256 {
		s, want := string([]byte{byte(b)}), fmt.Sprintf("%02x", b)
		if Hex(s) != want {
			t.Errorf("Hex(%x) = %q", s, Hex(s))
		}
		if got, e := Unhex(want); e != api.OK || got != s {
			t.Errorf("Unhex(%q) = %x, %v", want, got, e)
		}
	}
	long := sample(100000)
	if got, e := Unhex(Hex(long)); e != api.OK || got != long {
		t.Errorf("a long text does not come back: %v", e)
	}
	if got, e := Unhex(""); e != api.OK || got != "" {
		t.Errorf("Unhex of nothing = %x, %v", got, e)
	}
}

// 1.3: digits are 0 to 9 and a to f, in both places, and no other byte.
func TestUnhexDigits(t *testing.T) {
	for b := range 256 {
		c := string([]byte{byte(b)})
		is := strings.Contains("0123456789abcdef", c)
		for _, s := range []string{c + "0", "0" + c, "00" + c + "0", "00" + "0" + c} {
			got, e := Unhex(s)
			if is && (e != api.OK || Hex(got) != s) || !is && (e != api.ErrForm || got != "") {
				t.Errorf("Unhex(%q) = %x, %v", s, got, e)
			}
		}
	}
}

// 1.3: other texts are not of the form.
func TestUnhexForm(t *testing.T) {
	for _, s := range []string{"0", "abc", "00000", "AB", "0A", "0x00", " 00", "00 ", "00\n", "0g", "é", "\x00\x00"} {
		if got, e := Unhex(s); e != api.ErrForm || got != "" {
			t.Errorf("Unhex(%q) = %x, %v", s, got, e)
		}
	}
}

// 1.4: the parts in which bytes are written are not to be seen in the sum.
func TestPartsDoNotMatter(t *testing.T) {
	all := sample(1000)
	want := librarySum(all)
	for size := 1; size <= 200; size++ {
		h := New()
		for at := 0; at < len(all); at += size {
			h.Write(all[at:min(at+size, len(all))])
			h.Write("")
		}
		if h.Sum() != want || h.Len() != len(all) {
			t.Errorf("in parts of %d: %x, Len %d", size, h.Sum(), h.Len())
		}
	}
	for cut := range 200 {
		h := New()
		h.Write(all[:cut])
		h.Write(all[cut:])
		if h.Sum() != want {
			t.Errorf("cut at %d: %x", cut, h.Sum())
		}
	}
}

// 1.4: a text and its padding, mixed block by block into Start, make the sum.
func TestMixingMakesTheSum(t *testing.T) {
	for _, n := range edges() {
		s := sample(n)
		padded := s + Pad(n)
		state := Start()
		for at := 0; at < len(padded); at += api.SumBytes {
			var e api.Errno
			if state, e = Mix(state, padded[at:at+api.SumBytes]); e != api.OK {
				t.Fatalf("Mix: %v", e)
			}
		}
		var out []byte
		for _, w := range state {
			out = binary.BigEndian.AppendUint32(out, w)
		}
		if string(out) != Sum(s) {
			t.Errorf("%d bytes: mixed %x, Sum %x", n, out, Sum(s))
		}
	}
}
