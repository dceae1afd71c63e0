package sha

import (
	"math/bits"

	"mosaic/api"
)

// rounds is how many words a block is spread to, and how many times a state is turned by them.
const rounds = 64

// constants are K0 to K63: the first 32 bits of the fractional parts of the cube roots of the first 64 primes.
func constants() [rounds]uint32 {
	return [rounds]uint32{
		0x428a2f98, 0x71374491, 0xb5c0fbcf, 0xe9b5dba5, 0x3956c25b, 0x59f111f1, 0x923f82a4, 0xab1c5ed5,
		0xd807aa98, 0x12835b01, 0x243185be, 0x550c7dc3, 0x72be5d74, 0x80deb1fe, 0x9bdc06a7, 0xc19bf174,
		0xe49b69c1, 0xefbe4786, 0x0fc19dc6, 0x240ca1cc, 0x2de92c6f, 0x4a7484aa, 0x5cb0a9dc, 0x76f988da,
		0x983e5152, 0xa831c66d, 0xb00327c8, 0xbf597fc7, 0xc6e00bf3, 0xd5a79147, 0x06ca6351, 0x14292967,
		0x27b70a85, 0x2e1b2138, 0x4d2c6dfc, 0x53380d13, 0x650a7354, 0x766a0abb, 0x81c2c92e, 0x92722c85,
		0xa2bfe8a1, 0xa81a664b, 0xc24b8b70, 0xc76c51a3, 0xd192e819, 0xd6990624, 0xf40e3585, 0x106aa070,
		0x19a4c116, 0x1e376c08, 0x2748774c, 0x34b0bcb5, 0x391c0cb3, 0x4ed8aa4a, 0x5b9cca4f, 0x682e6ff3,
		0x748f82ee, 0x78a5636f, 0x84c87814, 0x8cc70208, 0x90befffa, 0xa4506ceb, 0xbef9a3f7, 0xc67178f2,
	}
}

// mixed is the state into which a block was mixed.
func mixed(state [8]uint32, block [api.SumBytes]byte) [8]uint32 {
	k, w := constants(), spread(block)
	a, b, c, d, e, f, g, h := state[0], state[1], state[2], state[3], state[4], state[5], state[6], state[7]
	for t := range rounds {
		choice := e&f ^ ^e&g
		majority := a&b ^ a&c ^ b&c
		t1 := h + turned(e, 6, 11, 25) + choice + k[t] + w[t]
		t2 := turned(a, 2, 13, 22) + majority
		h, g, f, e, d, c, b, a = g, f, e, d+t1, c, b, a, t1+t2
	}
	for i, x := range [8]uint32{a, b, c, d, e, f, g, h} {
		state[i] += x
	}
	return state
}

// spread makes the words W0 to W63 of a block.
func spread(block [api.SumBytes]byte) [rounds]uint32 {
	var w [rounds]uint32
	for i, b := range block {
		w[i/4] = w[i/4]<<8 | uint32(b)
	}
	for t := 16; t < rounds; t++ {
		s0 := rotr(w[t-15], 7) ^ rotr(w[t-15], 18) ^ w[t-15]>>3
		s1 := rotr(w[t-2], 17) ^ rotr(w[t-2], 19) ^ w[t-2]>>10
		w[t] = s1 + w[t-7] + s0 + w[t-16]
	}
	return w
}

func rotr(x uint32, n int) uint32 {
	return bits.RotateLeft32(x, -n)
}

// turned joins three turns of a word: the document's S0 and S1.
func turned(x uint32, i, j, k int) uint32 {
	return rotr(x, i) ^ rotr(x, j) ^ rotr(x, k)
}

// digest is a state as bytes, the highest of each word first.
func digest(state [8]uint32) string {
	var d [api.DigestBytes]byte
	for i := range d {
		d[i] = byte(state[i/4] >> (24 - 8*(i%4)))
	}
	return string(d[:])
}
