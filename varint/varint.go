// Package varint is layer 1: see shared/doc/01-varint.md.
package varint

import (
	"viaticum/api"
)

const (
	bits = 7         // of the number, in each byte
	more = 1 << bits // set in each byte but the last one
	last = 9         // the index of the tenth byte, in which a single bit of the number is left
)

// Put is a number's bytes.
func Put(n uint64) []byte {
	var out []byte
	for n >= more {
		out = append(out, byte(n%more)|more)
		n /= more
	}
	return append(out, byte(n))
}

// Take is the number that bytes begin with.
func Take(b []byte) (uint64, int, api.Errno) {
	var n uint64
	i := 0
next:
	if i >= len(b) {
		return 0, 0, api.ErrEnd
	}
	c := b[i]
	// A tenth byte that says there is more is above 1 too, so no eleventh one is read.
	if i == last && c > 1 {
		return 0, 0, api.ErrForm
	}
	n |= uint64(c%more) << (bits * i)
	i++
	if c >= more {
		goto next
	}
	// A last byte of 0 adds nothing: the number has fewer bytes, unless it is 0 itself.
	if c == 0 && i > 1 {
		return 0, 0, api.ErrForm
	}
	return n, i, api.OK
}

// Turn is a signed number's code.
func Turn(n int) uint64 {
	if n < 0 {
		// The least number has no opposite, but its successor has.
		return uint64(-(n+1))*2 + 1
	}
	return uint64(n) * 2
}

// Back is the signed number of a code.
func Back(n uint64) int {
	half := int(n / 2)
	if n%2 == 1 {
		return -half - 1
	}
	return half
}
