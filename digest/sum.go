package digest

import (
	"iter"
	"math/bits"

	"longliner/api"
)

const (
	blockSize = 64
	sizeAt    = 56 // where the last block holds the size of the whole
)

// rounds holds the word that is added in each round.
var rounds = [64]uint32{
	0x428a2f98, 0x71374491, 0xb5c0fbcf, 0xe9b5dba5, 0x3956c25b, 0x59f111f1, 0x923f82a4, 0xab1c5ed5,
	0xd807aa98, 0x12835b01, 0x243185be, 0x550c7dc3, 0x72be5d74, 0x80deb1fe, 0x9bdc06a7, 0xc19bf174,
	0xe49b69c1, 0xefbe4786, 0x0fc19dc6, 0x240ca1cc, 0x2de92c6f, 0x4a7484aa, 0x5cb0a9dc, 0x76f988da,
	0x983e5152, 0xa831c66d, 0xb00327c8, 0xbf597fc7, 0xc6e00bf3, 0xd5a79147, 0x06ca6351, 0x14292967,
	0x27b70a85, 0x2e1b2138, 0x4d2c6dfc, 0x53380d13, 0x650a7354, 0x766a0abb, 0x81c2c92e, 0x92722c85,
	0xa2bfe8a1, 0xa81a664b, 0xc24b8b70, 0xc76c51a3, 0xd192e819, 0xd6990624, 0xf40e3585, 0x106aa070,
	0x19a4c116, 0x1e376c08, 0x2748774c, 0x34b0bcb5, 0x391c0cb3, 0x4ed8aa4a, 0x5b9cca4f, 0x682e6ff3,
	0x748f82ee, 0x78a5636f, 0x84c87814, 0x8cc70208, 0x90befffa, 0xa4506ceb, 0xbef9a3f7, 0xc67178f2,
}

// sum returns the digest of the parts, one after the other, without joining them first.
func sum(parts ...string) string {
	words := [8]uint32{
		0x6a09e667, 0xbb67ae85, 0x3c6ef372, 0xa54ff53a,
		0x510e527f, 0x9b05688c, 0x1f83d9ab, 0x5be0cd19,
	}
	for block := range blocks(parts...) {
		words = mixed(words, block)
	}
	var text [api.DigestSize]byte
	for i, word := range words {
		for j := range 4 {
			text[4*i+j] = byte(word >> (24 - 8*j))
		}
	}
	return string(text[:])
}

// blocks yields the blocks of the parts, one after the other, extended by a mark, zero bytes and the size.
func blocks(parts ...string) iter.Seq[[blockSize]byte] {
	return func(yield func([blockSize]byte) bool) {
		var block [blockSize]byte
		size, filled := uint64(0), 0
	next:
		for _, part := range parts {
			size += uint64(len(part))
			for rest := part; ; {
				n := copy(block[filled:], rest)
				rest = rest[n:]
				filled += n
				if filled < blockSize {
					continue next
				}
				if !yield(block) {
					return
				}
				filled = 0
			}
		}
		yieldLast(yield, block, filled, size)
	}
}

// yieldLast yields the last blocks: block has filled bytes of the last part, and the parts have size bytes.
func yieldLast(yield func([blockSize]byte) bool, block [blockSize]byte, filled int, size uint64) {
	block[filled] = 128
	clear(block[filled+1:])
	if filled >= sizeAt { // no room for the size
		if !yield(block) {
			return
		}
		clear(block[:])
	}
	for i := range blockSize - sizeAt {
		block[sizeAt+i] = byte(8 * size >> (56 - 8*i))
	}
	yield(block)
}

// mixed returns what becomes of the eight words with a block.
func mixed(words [8]uint32, block [blockSize]byte) [8]uint32 {
	w := schedule(block)
	a, b, c, d := words[0], words[1], words[2], words[3]
	e, f, g, h := words[4], words[5], words[6], words[7]
	for i := range 64 {
		x := right(e, 6) ^ right(e, 11) ^ right(e, 25)
		y := right(a, 2) ^ right(a, 13) ^ right(a, 22)
		t := h + x + (e&f ^ ^e&g) + rounds[i] + w[i]
		u := y + (a&b ^ a&c ^ b&c)
		h, g, f, e = g, f, e, d+t
		d, c, b, a = c, b, a, t+u
	}
	return [8]uint32{
		words[0] + a, words[1] + b, words[2] + c, words[3] + d,
		words[4] + e, words[5] + f, words[6] + g, words[7] + h,
	}
}

// schedule returns the word of the block that is added in each round.
func schedule(block [blockSize]byte) [64]uint32 {
	var w [64]uint32
	for i := range 16 {
		b := block[4*i : 4*i+4]
		w[i] = uint32(b[0])<<24 | uint32(b[1])<<16 | uint32(b[2])<<8 | uint32(b[3])
	}
	for i := 16; i < 64; i++ {
		p, q := w[i-15], w[i-2]
		x := right(p, 7) ^ right(p, 18) ^ p>>3
		y := right(q, 17) ^ right(q, 19) ^ q>>10
		w[i] = w[i-16] + x + w[i-7] + y
	}
	return w
}

// right returns the word rotated right by n bits.
func right(word uint32, n int) uint32 {
	return bits.RotateLeft32(word, -n)
}
