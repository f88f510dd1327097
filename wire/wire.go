// Package wire is layer 1: it encodes integers and strings as bytes, decodes them, and computes checksums. See shared/doc/01-wire.md.
package wire

import (
	"iter"

	"longliner/api"
)

// A folded integer is at most 2 * api.MaxInt, which has 63 bits: 9 groups of 7.
const maxGroups = 9

// PutInt returns the encoding of n.
func PutInt(n int) (string, api.Errno) {
	if n < -api.MaxInt || n > api.MaxInt {
		return "", api.ErrWire
	}
	var code [maxGroups]byte
	size := 0
	for b := range groups(fold(n)) {
		code[size] = b
		size++
	}
	return string(code[:size]), api.OK
}

// Int returns the integer whose encoding begins at offset at of s, and the offset after the encoding.
func Int(s string, at int) (int, int, api.Errno) {
	if at < 0 || at > len(s) {
		return 0, 0, api.ErrArg
	}
	z, size := number(s[at:])
	if size == 0 || z > 2*api.MaxInt {
		return 0, 0, api.ErrWire
	}
	return unfold(z), at + size, api.OK
}

// PutString returns the encoding of s.
func PutString(s string) (string, api.Errno) {
	if len(s) > api.MaxString {
		return "", api.ErrWire
	}
	size, _ := PutInt(len(s)) // a length up to api.MaxString has an encoding
	return size + s, api.OK
}

// String returns the string whose encoding begins at offset at of s, and the offset after the encoding.
func String(s string, at int) (string, int, api.Errno) {
	size, start, e := Int(s, at)
	if e != api.OK {
		return "", 0, e
	}
	if size < 0 || size > api.MaxString || size > len(s)-start {
		return "", 0, api.ErrWire
	}
	end := start + size
	return s[start:end], end, api.OK
}

// fold maps the integers from -api.MaxInt to api.MaxInt to the numbers from 0 to 2 * api.MaxInt, so that small ones stay small, whatever their sign.
func fold(n int) uint64 {
	if n < 0 {
		return uint64(-2*n - 1)
	}
	return uint64(2 * n)
}

// unfold is the inverse of fold.
func unfold(z uint64) int {
	if z%2 == 1 {
		return -int(z/2) - 1
	}
	return int(z / 2)
}

// groups yields the bytes of the unsigned LEB128 encoding of z.
func groups(z uint64) iter.Seq[byte] {
	return func(yield func(byte) bool) {
		rest := z
		for ; rest >= 128; rest /= 128 {
			if !yield(byte(rest%128) + 128) {
				return
			}
		}
		yield(byte(rest))
	}
}

// number returns the number whose unsigned LEB128 encoding s begins with, and the size of the encoding, which is 0 if there is none of at most maxGroups groups.
func number(s string) (uint64, int) {
	z := uint64(0)
	for i := range min(len(s), maxGroups) {
		b := s[i]
		z |= uint64(b%128) << (7 * i)
		if b == 0 && i > 0 { // a superfluous zero group
			return 0, 0
		}
		if b < 128 {
			return z, i + 1
		}
	}
	return 0, 0
}
