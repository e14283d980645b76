package digest

import (
	"iter"
	"math/bits"
	"slices"

	"cleanroom/api"
)

// blockSize is the number of bytes of a block, and lengthSize the number of bytes for the length at the end of the last one.
const (
	blockSize  = 64
	lengthSize = 8
)

// roundWords are the words that are added in the rounds of a block: k(0) to k(63) of the chapter.
var roundWords = [64]uint32{
	0x428a2f98, 0x71374491, 0xb5c0fbcf, 0xe9b5dba5, 0x3956c25b, 0x59f111f1, 0x923f82a4, 0xab1c5ed5,
	0xd807aa98, 0x12835b01, 0x243185be, 0x550c7dc3, 0x72be5d74, 0x80deb1fe, 0x9bdc06a7, 0xc19bf174,
	0xe49b69c1, 0xefbe4786, 0x0fc19dc6, 0x240ca1cc, 0x2de92c6f, 0x4a7484aa, 0x5cb0a9dc, 0x76f988da,
	0x983e5152, 0xa831c66d, 0xb00327c8, 0xbf597fc7, 0xc6e00bf3, 0xd5a79147, 0x06ca6351, 0x14292967,
	0x27b70a85, 0x2e1b2138, 0x4d2c6dfc, 0x53380d13, 0x650a7354, 0x766a0abb, 0x81c2c92e, 0x92722c85,
	0xa2bfe8a1, 0xa81a664b, 0xc24b8b70, 0xc76c51a3, 0xd192e819, 0xd6990624, 0xf40e3585, 0x106aa070,
	0x19a4c116, 0x1e376c08, 0x2748774c, 0x34b0bcb5, 0x391c0cb3, 0x4ed8aa4a, 0x5b9cca4f, 0x682e6ff3,
	0x748f82ee, 0x78a5636f, 0x84c87814, 0x8cc70208, 0x90befffa, 0xa4506ceb, 0xbef9a3f7, 0xc67178f2,
}

// sumOf returns the SHA-256 of the parts, one after the other. They are not joined, because an entry may be long.
func sumOf(parts ...string) string {
	length := 0
	for _, part := range parts {
		length += len(part)
	}
	words := [8]uint32{0x6a09e667, 0xbb67ae85, 0x3c6ef372, 0xa54ff53a, 0x510e527f, 0x9b05688c, 0x1f83d9ab, 0x5be0cd19}
	for block := range blocks(slices.Concat(parts, []string{padding(length)})...) {
		words = mix(words, schedule(block))
	}
	sum := make([]byte, 0, api.DigestSize)
	for _, word := range words {
		sum = append(sum, byte(word>>24), byte(word>>16), byte(word>>8), byte(word))
	}
	return string(sum)
}

// padding returns what extends a string of n bytes to whole blocks.
func padding(n int) string {
	zeros := (2*blockSize - lengthSize - 1 - n%blockSize) % blockSize
	pad := make([]byte, 1+zeros+lengthSize)
	pad[0] = 128
	for i := range lengthSize {
		pad[len(pad)-1-i] = byte(8 * n >> (8 * i))
	}
	return string(pad)
}

// blocks returns a function that yields the full blocks of the parts, one after the other.
func blocks(parts ...string) iter.Seq[[blockSize]byte] {
	return func(yield func([blockSize]byte) bool) {
		var block [blockSize]byte
		used := 0
	next:
		for _, part := range parts {
			for {
				n := copy(block[used:], part)
				part = part[n:]
				used += n
				if used < blockSize {
					continue next
				}
				if !yield(block) {
					return
				}
				used = 0
			}
		}
	}
}

// schedule returns the words w(0) to w(63) of a block.
func schedule(block [blockSize]byte) [64]uint32 {
	var w [64]uint32
	for i := range 16 {
		w[i] = uint32(block[4*i])<<24 | uint32(block[4*i+1])<<16 | uint32(block[4*i+2])<<8 | uint32(block[4*i+3])
	}
	for i := 16; i < 64; i++ {
		x := rotate(w[i-15], 7) ^ rotate(w[i-15], 18) ^ w[i-15]>>3
		y := rotate(w[i-2], 17) ^ rotate(w[i-2], 19) ^ w[i-2]>>10
		w[i] = w[i-16] + x + w[i-7] + y
	}
	return w
}

// mix returns what the eight words become by a block with the words w.
func mix(words [8]uint32, w [64]uint32) [8]uint32 {
	a, b, c, d, e, f, g, h := words[0], words[1], words[2], words[3], words[4], words[5], words[6], words[7]
	for i := range 64 {
		t := h + (rotate(e, 6) ^ rotate(e, 11) ^ rotate(e, 25)) + (e&f ^ ^e&g) + roundWords[i] + w[i]
		u := (rotate(a, 2) ^ rotate(a, 13) ^ rotate(a, 22)) + (a&b ^ a&c ^ b&c)
		a, b, c, d, e, f, g, h = t+u, a, b, c, d+t, e, f, g
	}
	for i, word := range [8]uint32{a, b, c, d, e, f, g, h} {
		words[i] += word
	}
	return words
}

// rotate returns x rotated right by n bits.
func rotate(x uint32, n int) uint32 {
	return bits.RotateLeft32(x, -n)
}
