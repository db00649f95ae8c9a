package impl

import "math/bits"

const hashSize = 32
const blockSize = 64
const rounds = 64

// The last bytes of the last block of a text tell its size in bits.
const sizePlace = blockSize - 8

// fullHash is kept as a value, so that hashes are compared and copied without sharing memory.
type fullHash [hashSize]byte

// hasher takes its text in pieces, so that a letter and an encoding need not be joined first.
type hasher struct {
	state [8]uint32
	block [blockSize]byte
	held  int
	size  uint64
}

// roundWords are the first 32 bits of the fractions of the cube roots of the first 64 primes.
var roundWords = [rounds]uint32{
	0x428a2f98, 0x71374491, 0xb5c0fbcf, 0xe9b5dba5, 0x3956c25b, 0x59f111f1, 0x923f82a4, 0xab1c5ed5,
	0xd807aa98, 0x12835b01, 0x243185be, 0x550c7dc3, 0x72be5d74, 0x80deb1fe, 0x9bdc06a7, 0xc19bf174,
	0xe49b69c1, 0xefbe4786, 0x0fc19dc6, 0x240ca1cc, 0x2de92c6f, 0x4a7484aa, 0x5cb0a9dc, 0x76f988da,
	0x983e5152, 0xa831c66d, 0xb00327c8, 0xbf597fc7, 0xc6e00bf3, 0xd5a79147, 0x06ca6351, 0x14292967,
	0x27b70a85, 0x2e1b2138, 0x4d2c6dfc, 0x53380d13, 0x650a7354, 0x766a0abb, 0x81c2c92e, 0x92722c85,
	0xa2bfe8a1, 0xa81a664b, 0xc24b8b70, 0xc76c51a3, 0xd192e819, 0xd6990624, 0xf40e3585, 0x106aa070,
	0x19a4c116, 0x1e376c08, 0x2748774c, 0x34b0bcb5, 0x391c0cb3, 0x4ed8aa4a, 0x5b9cca4f, 0x682e6ff3,
	0x748f82ee, 0x78a5636f, 0x84c87814, 0x8cc70208, 0x90befffa, 0xa4506ceb, 0xbef9a3f7, 0xc67178f2,
}

// newHasher begins with the fractions of the square roots of the first 8 primes.
func newHasher() *hasher {
	return &hasher{state: [8]uint32{
		0x6a09e667, 0xbb67ae85, 0x3c6ef372, 0xa54ff53a,
		0x510e527f, 0x9b05688c, 0x1f83d9ab, 0x5be0cd19,
	}}
}

func (h *hasher) feed(s string) {
	h.size += uint64(len(s))
	for len(s) > 0 {
		n := copy(h.block[h.held:], s)
		s = s[n:]
		h.held += n
		if h.held == blockSize {
			h.mix()
		}
	}
}

// finish may be called once: the padding has then become part of the state.
func (h *hasher) finish() fullHash {
	h.block[h.held] = 0x80
	h.held++
	if h.held > sizePlace {
		h.fillZeros(blockSize)
		h.mix()
	}
	h.fillZeros(sizePlace)
	size := h.size * 8
	for i := sizePlace; i < blockSize; i++ {
		h.block[i] = byte(size >> (8 * (blockSize - 1 - i)))
	}
	h.mix()
	return h.stateBytes()
}

// fillZeros overwrites what an earlier block has left behind.
func (h *hasher) fillZeros(end int) {
	for h.held < end {
		h.block[h.held] = 0
		h.held++
	}
}

func (h *hasher) stateBytes() fullHash {
	var out fullHash
	for i, word := range h.state {
		out[4*i] = byte(word >> 24)
		out[4*i+1] = byte(word >> 16)
		out[4*i+2] = byte(word >> 8)
		out[4*i+3] = byte(word)
	}
	return out
}

// mix takes the full block into the state and leaves room for the next one.
func (h *hasher) mix() {
	words := h.schedule()
	a, b, c, d := h.state[0], h.state[1], h.state[2], h.state[3]
	e, f, g, z := h.state[4], h.state[5], h.state[6], h.state[7]
	for i := 0; i < rounds; i++ {
		sumE := bits.RotateLeft32(e, -6) ^ bits.RotateLeft32(e, -11) ^ bits.RotateLeft32(e, -25)
		sumA := bits.RotateLeft32(a, -2) ^ bits.RotateLeft32(a, -13) ^ bits.RotateLeft32(a, -22)
		choice := (e & f) ^ (^e & g)
		majority := (a & b) ^ (a & c) ^ (b & c)
		first := z + sumE + choice + roundWords[i] + words[i]
		second := sumA + majority
		z, g, f, e = g, f, e, d+first
		d, c, b, a = c, b, a, first+second
	}
	for i, word := range [8]uint32{a, b, c, d, e, f, g, z} {
		h.state[i] += word
	}
	h.held = 0
}

// schedule stretches the block to one word for each round.
func (h *hasher) schedule() [rounds]uint32 {
	var words [rounds]uint32
	for i := 0; i < 16; i++ {
		words[i] = uint32(h.block[4*i])<<24 | uint32(h.block[4*i+1])<<16 |
			uint32(h.block[4*i+2])<<8 | uint32(h.block[4*i+3])
	}
	for i := 16; i < rounds; i++ {
		near, far := words[i-2], words[i-15]
		sumNear := bits.RotateLeft32(near, -17) ^ bits.RotateLeft32(near, -19) ^ near>>10
		sumFar := bits.RotateLeft32(far, -7) ^ bits.RotateLeft32(far, -18) ^ far>>3
		words[i] = sumNear + words[i-7] + sumFar + words[i-16]
	}
	return words
}

func hashOf(s string) fullHash {
	h := newHasher()
	h.feed(s)
	return h.finish()
}

// rank is the place of a key in the order from the top of a tree to its bottom.
type rank struct {
	hash fullHash
	key  string
}

func rankOf(key string) rank {
	return rank{hash: hashOf(key), key: key}
}

func (r rank) above(other rank) bool {
	if r.hash == other.hash {
		return r.key < other.key
	}
	return r.hash.greater(other.hash)
}

func (h fullHash) greater(other fullHash) bool {
	for i := range h {
		if h[i] != other[i] {
			return h[i] > other[i]
		}
	}
	return false
}

func isWidth(w int) bool {
	return 1 <= w && w <= hashSize
}

func Sha256(s string) string {
	h := hashOf(s)
	return string(h[:])
}

func Digest(s string, w int) string {
	if !isWidth(w) {
		return ""
	}
	h := hashOf(s)
	return string(h[:w])
}

func Higher(a string, b string) bool {
	return rankOf(a).above(rankOf(b))
}
