// Package sha is layer 2: see shared/doc/02-sha.md.
package sha

import (
	"quitclaim/api"
	"quitclaim/word"
)

// full is how many bytes a block has.
const full = 64

// rounds is how many words a block grows to.
const rounds = 64

// Hash is a sum in the making. It holds arrays alone, so that a copy of it goes on by itself.
type Hash struct {
	state [8]uint32
	rest  [full]byte
	size  int
}

// New is a hash without bytes.
func New() *Hash {
	return &Hash{state: [8]uint32{
		0x6a09e667, 0xbb67ae85, 0x3c6ef372, 0xa54ff53a,
		0x510e527f, 0x9b05688c, 0x1f83d9ab, 0x5be0cd19,
	}}
}

// Write takes bytes in.
func (h *Hash) Write(s string) int {
	count := len(s)
	if begun := h.size % full; begun > 0 {
		n := copy(h.rest[begun:], s)
		s = s[n:]
		if begun+n == full {
			h.state = mix(h.state, string(h.rest[:]))
		}
	}
	for len(s) >= full {
		h.state = mix(h.state, s[:full])
		s = s[full:]
	}
	// Where a begun block still isn't full, nothing is left here, and its bytes stay.
	copy(h.rest[:], s)
	h.size += count
	return count
}

// Len is how many bytes there are.
func (h *Hash) Len() int { return h.size }

// Sum is the sum of all bytes so far.
func (h *Hash) Sum() api.Id {
	last := *h // more bytes may come, so the padding goes into a copy
	last.Write(padding(h.size))
	var sum api.Id
	copy(sum[:], word.Bytes(last.state[:]))
	return sum
}

// Sum is a text's.
func Sum(s string) api.Id {
	h := New()
	h.Write(s)
	return h.Sum()
}

// padding is what a text of so many bytes is padded with.
func padding(size int) string {
	count, _ := word.Number(uint64(size)*8, 8)
	zeros := (2*full - 1 - len(count) - size%full) % full
	pad := [2 * full]byte{0x80}
	end := 1 + zeros
	end += copy(pad[end:], count)
	return string(pad[:end])
}

// mix is the eight words behind a block.
func mix(state [8]uint32, block string) [8]uint32 {
	k := constants()
	w := grown(block)
	a, b, c, d := state[0], state[1], state[2], state[3]
	e, f, g, h := state[4], state[5], state[6], state[7]
	for i := range rounds {
		x := h + (word.Right(e, 6) ^ word.Right(e, 11) ^ word.Right(e, 25)) + (e&f ^ ^e&g) + k[i] + w[i]
		y := (word.Right(a, 2) ^ word.Right(a, 13) ^ word.Right(a, 22)) + (a&b ^ a&c ^ b&c)
		h, g, f, e = g, f, e, d+x
		d, c, b, a = c, b, a, x+y
	}
	for i, v := range [8]uint32{a, b, c, d, e, f, g, h} {
		state[i] += v
	}
	return state
}

// grown is a block's sixteen words, and those that are made of them.
func grown(block string) [rounds]uint32 {
	var w [rounds]uint32
	first, _ := word.Words(block)
	for i := copy(w[:], first); i < rounds; i++ {
		p, q := w[i-15], w[i-2]
		s := word.Right(p, 7) ^ word.Right(p, 18) ^ p>>3
		t := word.Right(q, 17) ^ word.Right(q, 19) ^ q>>10
		w[i] = w[i-16] + s + w[i-7] + t
	}
	return w
}

// constants are a word a round.
func constants() [rounds]uint32 {
	return [rounds]uint32{
		0x428a2f98, 0x71374491, 0xb5c0fbcf, 0xe9b5dba5, 0x3956c25b, 0x59f111f1, 0x923f82a4, 0xab1c5ed5,
		0xd807aa98, 0x12835b01, 0x243185be, 0x550c7dc3, 0x72be5d74, 0x80deb1fe, 0x9bdc06a7, 0xc19bf174,
		0xe49b69c1, 0xefbe4786, 0x0fc19dc6, 0x240ca1cc, 0x2de92c6f, 0x4a7484aa, 0x5cb0a9dc, 0x76f988da,
		0x983e5152, 0xa831c66d, 0xb00327c8, 0xbf597fc7, 0xc6e00bf3, 0xd5a79147, 0x06ca6351, 0x14292967,
		0x27b70a85, 0x2e1b2138, 0x4d2c6dfc, 0x53380d13, 0x650a7354, 0x766a0abb, 0x81c2c92e, 0x92722c85,
		0xa2bfe8a1, 0xa81a664b, 0xc24b8b70, 0xc76c51a3, 0xd192e819, 0xd6990624, 0xf40e3585, 0x106aa070,
		0x19a4c116, 0x1e376c08, 0x2748774c, 0x34b0bcb5, 0x391c0cb3, 0x4ed8aa4a, 0x5b9cca4f, 0x682e6ff3,
		0x748f82ee, 0x78a5636f, 0x84c87814, 0x8cc70208, 0x90befffa, 0xa4506ceb, 0xbef9a3f7, 0xc67178f2,
	}
}
