// Package sha is layer 1: SHA-256, and bytes in hexadecimal digits. See shared/doc/01-sha.md.
package sha

import (
	"mosaic/api"
)

// lengthBytes is how many bytes of the padding say how many bits there were.
const lengthBytes = 8

// Start is the state of no bytes.
func Start() [8]uint32 {
	return [8]uint32{
		0x6a09e667, 0xbb67ae85, 0x3c6ef372, 0xa54ff53a,
		0x510e527f, 0x9b05688c, 0x1f83d9ab, 0x5be0cd19,
	}
}

// Mix mixes a block into a state.
func Mix(state [8]uint32, block string) ([8]uint32, api.Errno) {
	if len(block) != api.SumBytes {
		return [8]uint32{}, api.ErrArg
	}
	var b [api.SumBytes]byte
	copy(b[:], block)
	return mixed(state, b), api.OK
}

// Pad is what stands behind so many bytes.
func Pad(n int) string {
	if n < 0 || n > api.MaxData {
		return ""
	}
	// One byte 80 stands ahead of the zeros: at least so many bytes are added.
	least := n + 1 + lengthBytes
	zeros := (api.SumBytes - least%api.SumBytes) % api.SumBytes
	pad := make([]byte, 1+zeros+lengthBytes)
	pad[0] = 0x80
	for i := range lengthBytes {
		pad[len(pad)-1-i] = byte(uint64(n) * 8 >> (8 * i))
	}
	return string(pad)
}

// Hash sums what is written. Whole blocks are mixed as soon as they are there, so only the bytes behind the last one are kept.
type Hash struct {
	state [8]uint32
	part  [api.SumBytes]byte
	long  int
}

// New is a sum of nothing.
func New() *Hash {
	return &Hash{state: Start()}
}

// Write writes bytes behind what was written.
func (h *Hash) Write(s string) api.Errno {
	if h == nil {
		return api.ErrArg
	}
	if len(s) > api.MaxData-h.long {
		return api.ErrLong
	}
	h.take(s)
	return api.OK
}

// take asks for no bound: the padding goes beyond api.MaxData.
func (h *Hash) take(s string) {
	n := 0
fill:
	if s == "" {
		return
	}
	n = copy(h.part[h.long%api.SumBytes:], s)
	h.long += n
	s = s[n:]
	if h.long%api.SumBytes == 0 {
		h.state = mixed(h.state, h.part)
	}
	goto fill
}

// Len is how many bytes were written.
func (h *Hash) Len() int {
	if h == nil {
		return 0
	}
	return h.long
}

// Sum is the sum of what was written.
func (h *Hash) Sum() string {
	if h == nil {
		return ""
	}
	// The padding goes into a copy, so that the writing can go on.
	padded := *h
	padded.take(Pad(h.long))
	return digest(padded.state)
}

// Sum is the sum of bytes.
func Sum(s string) string {
	h := New()
	if h.Write(s) != api.OK {
		return ""
	}
	return h.Sum()
}
