// Package wire encodes integers and strings as bytes, decodes them, and computes checksums (layer 1: see shared/doc/01-wire.md).
package wire

import (
	"strings"

	"cleanroom/api"
)

// maxCode is the greatest number that stands for an integer, and maxGroups the number of groups that it needs.
const (
	maxCode   = 2 * api.MaxInt
	maxGroups = 9
)

// quarters[i] is what a register of i becomes by four shifts of Sum: half a byte.
var quarters = [16]uint32{
	0x00000000, 0x105ec76f, 0x20bd8ede, 0x30e349b1,
	0x417b1dbc, 0x5125dad3, 0x61c69362, 0x7198540d,
	0x82f63b78, 0x92a8fc17, 0xa24bb5a6, 0xb21572c9,
	0xc38d26c4, 0xd3d3e1ab, 0xe330a81a, 0xf36e6f75,
}

// PutInt returns the encoding of n, or ErrWire if n is not from -MaxInt to MaxInt.
func PutInt(n int) (string, api.Errno) {
	if n < -api.MaxInt || n > api.MaxInt {
		return "", api.ErrWire
	}
	var code []byte
	for b := range groups(fold(n)) {
		code = append(code, b)
	}
	return string(code), api.OK
}

// Int decodes the integer whose encoding begins at offset at of s, and returns it and the offset after it.
func Int(s string, at int) (int, int, api.Errno) {
	if at < 0 || at > len(s) {
		return 0, 0, api.ErrArg
	}
	z, next, ok := join(s, at)
	if !ok || z > maxCode {
		return 0, 0, api.ErrWire
	}
	return unfold(z), next, api.OK
}

// PutString returns the encoding of s, or ErrWire if s has more than MaxString bytes.
func PutString(s string) (string, api.Errno) {
	if len(s) > api.MaxString {
		return "", api.ErrWire
	}
	// No error: MaxString is less than MaxInt.
	length, _ := PutInt(len(s))
	return length + s, api.OK
}

// String decodes the string whose encoding begins at offset at of s, and returns it and the offset after it.
func String(s string, at int) (string, int, api.Errno) {
	n, start, err := Int(s, at)
	if err != api.OK {
		return "", 0, err
	}
	if n < 0 || n > api.MaxString || n > len(s)-start {
		return "", 0, api.ErrWire
	}
	// A copy, because a result shares no memory with an argument.
	return strings.Clone(s[start : start+n]), start + n, api.OK
}

// Sum returns the CRC-32C checksum of s.
func Sum(s string) int {
	register := ^uint32(0)
	for i := 0; i < len(s); i++ {
		register ^= uint32(s[i])
		register = register>>4 ^ quarters[register&15]
		register = register>>4 ^ quarters[register&15]
	}
	return int(^register)
}

// fold returns the number that stands for n: an even one if n is 0 or greater, and otherwise an odd one.
func fold(n int) uint64 {
	if n < 0 {
		return uint64(-2*n - 1)
	}
	return uint64(2 * n)
}

// unfold returns the integer for which z stands.
func unfold(z uint64) int {
	half := int(z >> 1)
	if z&1 == 1 {
		return -half - 1
	}
	return half
}

// groups returns a function that yields the bytes for the groups of z, the least significant first.
func groups(z uint64) func(yield func(byte) bool) {
	return func(yield func(byte) bool) {
		rest := z
		for rest > 127 {
			if !yield(byte(rest) | 128) {
				return
			}
			rest >>= 7
		}
		yield(byte(rest))
	}
}

// join returns the number whose groups begin at offset at of s, and the offset after them; it reports whether they end, are not too many, and are not superfluous.
func join(s string, at int) (uint64, int, bool) {
	var z uint64
	for i := 0; i < maxGroups && at+i < len(s); i++ {
		b := s[at+i]
		z |= uint64(b&127) << (7 * i)
		if b < 128 {
			return z, at + i + 1, b != 0 || i == 0
		}
	}
	return 0, 0, false
}
