// Package sha is layer 1: SHA-256 (FIPS 180-4), of bytes at once or in parts.
package sha

const blockSize = 64

// The most bytes of padding: where the eight bytes of length no longer fit behind the byte 128, they spill over into one more block.
const mostPadding = blockSize + 8

var start = [8]uint32{
	0x6a09e667, 0xbb67ae85, 0x3c6ef372, 0xa54ff53a, 0x510e527f, 0x9b05688c, 0x1f83d9ab, 0x5be0cd19,
}

var constants = [64]uint32{
	0x428a2f98, 0x71374491, 0xb5c0fbcf, 0xe9b5dba5, 0x3956c25b, 0x59f111f1, 0x923f82a4, 0xab1c5ed5,
	0xd807aa98, 0x12835b01, 0x243185be, 0x550c7dc3, 0x72be5d74, 0x80deb1fe, 0x9bdc06a7, 0xc19bf174,
	0xe49b69c1, 0xefbe4786, 0x0fc19dc6, 0x240ca1cc, 0x2de92c6f, 0x4a7484aa, 0x5cb0a9dc, 0x76f988da,
	0x983e5152, 0xa831c66d, 0xb00327c8, 0xbf597fc7, 0xc6e00bf3, 0xd5a79147, 0x06ca6351, 0x14292967,
	0x27b70a85, 0x2e1b2138, 0x4d2c6dfc, 0x53380d13, 0x650a7354, 0x766a0abb, 0x81c2c92e, 0x92722c85,
	0xa2bfe8a1, 0xa81a664b, 0xc24b8b70, 0xc76c51a3, 0xd192e819, 0xd6990624, 0xf40e3585, 0x106aa070,
	0x19a4c116, 0x1e376c08, 0x2748774c, 0x34b0bcb5, 0x391c0cb3, 0x4ed8aa4a, 0x5b9cca4f, 0x682e6ff3,
	0x748f82ee, 0x78a5636f, 0x84c87814, 0x8cc70208, 0x90befffa, 0xa4506ceb, 0xbef9a3f7, 0xc67178f2,
}

// Hash is what was written so far. Its bytes lie in arrays, so that an assignment copies it whole; a zero Hash is one of nothing.
type Hash struct {
	state  [8]uint32 // behind all full blocks; of no meaning while length is 0
	block  [blockSize]byte
	length uint64 // the bytes written; those beyond the last full block wait in block
}

// New is a Hash to which nothing has been written.
func New() *Hash { return &Hash{} }

// Sum is the digest of b.
func Sum(b []byte) [32]byte {
	var h Hash
	h.Write(b)
	return h.Sum()
}

// Write appends b to what has been written. A nil Hash holds nothing, and takes nothing.
func (h *Hash) Write(b []byte) {
	if h == nil {
		return
	}
	if h.length == 0 {
		h.state = start
	}
	for len(b) > 0 {
		n := copy(h.block[h.length%blockSize:], b)
		h.length += uint64(n)
		b = b[n:]
		if h.length%blockSize == 0 {
			h.state = mix(h.state, h.block)
		}
	}
}

// Sum is the digest of all that has been written. The padding goes into a copy, so that h can be written to afterwards.
func (h *Hash) Sum() [32]byte {
	var last Hash
	if h != nil {
		last = *h
	}
	padding, n := paddingOf(last.length)
	last.Write(padding[:n])
	return bytesOf(last.state)
}

// paddingOf is what follows an input of so many bytes, and how many bytes of the array that takes.
func paddingOf(length uint64) ([mostPadding]byte, int) {
	var p [mostPadding]byte
	p[0] = 128
	// 55 is the last place in a block that leaves room for the eight bytes; wrapping round below zero does no harm, as 2^64 is a multiple of 64.
	at := 1 + int((55-length)%blockSize)
	bits := length * 8
	for i := range 8 {
		p[at+i] = byte(bits >> (56 - 8*i))
	}
	return p, at + 8
}

// mix is the state behind one more block.
func mix(state [8]uint32, block [blockSize]byte) [8]uint32 {
	w := schedule(block)
	// Variables of their own can stay in registers; moving an array along in each step takes far longer.
	a, b, c, d, e, f, g, h := state[0], state[1], state[2], state[3], state[4], state[5], state[6], state[7]
	for i := range w {
		t := h + (rotr(e, 6) ^ rotr(e, 11) ^ rotr(e, 25)) + (e&f ^ ^e&g) + constants[i] + w[i]
		u := (rotr(a, 2) ^ rotr(a, 13) ^ rotr(a, 22)) + (a&b ^ a&c ^ b&c)
		a, b, c, d, e, f, g, h = t+u, a, b, c, d+t, e, f, g
	}
	next := [8]uint32{a, b, c, d, e, f, g, h}
	for i := range next {
		next[i] += state[i]
	}
	return next
}

// schedule is a block's sixteen numbers, and the 48 that follow from them.
func schedule(block [blockSize]byte) [64]uint32 {
	var w [64]uint32
	for i := range 16 {
		w[i] = uint32(block[4*i])<<24 | uint32(block[4*i+1])<<16 | uint32(block[4*i+2])<<8 | uint32(block[4*i+3])
	}
	for i := 16; i < 64; i++ {
		x, y := w[i-15], w[i-2]
		w[i] = w[i-16] + w[i-7] + (rotr(x, 7) ^ rotr(x, 18) ^ x>>3) + (rotr(y, 17) ^ rotr(y, 19) ^ y>>10)
	}
	return w
}

func rotr(x uint32, n uint) uint32 { return x>>n | x<<(32-n) }

// bytesOf is a state as a digest.
func bytesOf(state [8]uint32) [32]byte {
	var d [32]byte
	for i, x := range state {
		d[4*i] = byte(x >> 24)
		d[4*i+1] = byte(x >> 16)
		d[4*i+2] = byte(x >> 8)
		d[4*i+3] = byte(x)
	}
	return d
}
