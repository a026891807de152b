// Package wire is layer 1: it encodes integers and strings as bytes, decodes them, and computes checksums. See shared/doc/01-wire.md.
package wire

import (
	"iter"
	"strings"

	"evergreen/api"
)

// maxGroups is how many groups the encoding of an integer has at most: 2 MaxInt has 63 bits.
const maxGroups = 9

// steps has for each value of the register's lowest four bits what is XORed into it when they are shifted out.
var steps = [16]uint32{
	0x00000000, 0x105ec76f, 0x20bd8ede, 0x30e349b1,
	0x417b1dbc, 0x5125dad3, 0x61c69362, 0x7198540d,
	0x82f63b78, 0x92a8fc17, 0xa24bb5a6, 0xb21572c9,
	0xc38d26c4, 0xd3d3e1ab, 0xe330a81a, 0xf36e6f75,
}

// PutInt returns the encoding of n, or ErrWire if n is not from -MaxInt to MaxInt.
func PutInt(n int) (string, api.Errno) {
	if n < -api.MaxInt || n > api.MaxInt {
		return "", api.ErrWire
	}
	var encoding [maxGroups]byte
	size := 0
	for group, last := range groups(fold(n)) {
		if !last {
			group += 128
		}
		encoding[size] = group
		size++
	}
	return string(encoding[:size]), api.OK
}

// Int decodes the integer whose encoding begins at offset at of s, and returns it and the offset of the byte after the encoding.
func Int(s string, at int) (int, int, api.Errno) {
	if at < 0 || at > len(s) {
		return 0, 0, api.ErrArg
	}
	z, size, ok := join(s[at:])
	if !ok {
		return 0, 0, api.ErrWire
	}
	n := unfold(z)
	// Nine groups have room for one number more than there are integers to encode.
	if n < -api.MaxInt {
		return 0, 0, api.ErrWire
	}
	return n, at + size, api.OK
}

// PutString returns the encoding of s, or ErrWire if s has more than MaxString bytes.
func PutString(s string) (string, api.Errno) {
	if len(s) > api.MaxString {
		return "", api.ErrWire
	}
	length, e := PutInt(len(s))
	if e != api.OK {
		return "", e
	}
	return length + s, api.OK
}

// String decodes the string whose encoding begins at offset at of s, and returns it and the offset of the byte after the encoding.
func String(s string, at int) (string, int, api.Errno) {
	length, start, e := Int(s, at)
	if e != api.OK {
		return "", 0, e
	}
	if length < 0 || length > api.MaxString || length > len(s)-start {
		return "", 0, api.ErrWire
	}
	end := start + length
	// A part of s would keep all of s in memory.
	return strings.Clone(s[start:end]), end, api.OK
}

// Sum returns the CRC-32C checksum of s.
func Sum(s string) int {
	register := ^uint32(0)
	for i := range len(s) {
		register ^= uint32(s[i])
		register = register>>4 ^ steps[register%16]
		register = register>>4 ^ steps[register%16]
	}
	return int(^register)
}

// fold maps integers to natural numbers, so that those near 0 have short encodings whatever their sign is.
func fold(n int) uint64 {
	if n < 0 {
		return 2*uint64(-n) - 1
	}
	return 2 * uint64(n)
}

// unfold is the inverse of fold.
func unfold(z uint64) int {
	half := int(z / 2)
	if z%2 == 1 {
		return -half - 1
	}
	return half
}

// groups yields the groups of 7 bits of z, the least significant one first, and whether each is the last one.
func groups(z uint64) iter.Seq2[byte, bool] {
	return func(yield func(byte, bool) bool) {
		rest := z
		for rest >= 128 {
			if !yield(byte(rest%128), false) {
				return
			}
			rest /= 128
		}
		yield(byte(rest), true)
	}
}

// join returns the number whose groups s begins with, and how many groups there are; false if there is no such number of at most maxGroups groups.
func join(s string) (uint64, int, bool) {
	z := uint64(0)
	for i := range min(len(s), maxGroups) {
		z += uint64(s[i]%128) << (7 * i)
		if s[i] >= 128 {
			continue
		}
		if s[i] == 0 && i > 0 {
			return 0, 0, false
		}
		return z, i + 1, true
	}
	return 0, 0, false
}
