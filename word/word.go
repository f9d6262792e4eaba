// Package word is layer 1: numbers as bytes, the highest byte first. See shared/doc/01-word.md.
package word

import (
	"bytes"

	"chatelaine/api"
)

// greatest is the greatest number of eight bytes; fewer bytes hold all that fits.
const greatest = 1 << 62

// shifts has, by how many bytes stand behind a byte, the bits below it.
var shifts = [8]uint{0, 8, 16, 24, 32, 40, 48, 56}

// Put is a number's bytes.
func Put(n, size int) ([]byte, api.Errno) {
	if size < 1 || size > len(shifts) || !fits(n, size) {
		return nil, api.ErrArg
	}
	return spread(uint64(n), size), api.OK
}

// Get is the number of bytes.
func Get(b []byte) (int, api.Errno) {
	if len(b) == 0 {
		return 0, api.ErrEnd
	}
	if len(b) > len(shifts) {
		return 0, api.ErrExtra
	}
	x := gather(b)
	if x > greatest {
		return 0, api.ErrForm
	}
	return int(x), api.OK
}

// Put32 is four bytes.
func Put32(x uint32) []byte { return spread(uint64(x), 4) }

// Get32 is the number of four bytes.
func Get32(b []byte) (uint32, bool) {
	if len(b) != 4 {
		return 0, false
	}
	return uint32(gather(b)), true
}

// Put64 is eight bytes.
func Put64(x uint64) []byte { return spread(x, 8) }

// Get64 is the number of eight bytes.
func Get64(b []byte) (uint64, bool) {
	if len(b) != 8 {
		return 0, false
	}
	return gather(b), true
}

// Cut is the first bytes, and those behind. Both are copies, so that a write into one reaches neither the other nor b.
func Cut(b []byte, n int) (head, rest []byte, ok bool) {
	if n < 0 || n > len(b) {
		return nil, nil, false
	}
	return bytes.Clone(b[:n]), bytes.Clone(b[n:]), true
}

// Rotate is bits turned to the right.
func Rotate(x uint32, n int) uint32 {
	// The low five bits are n modulo 32 for every int, below 0 too; -n would leave the range for the least one.
	turn := uint(n & 31)
	return x>>turn | x<<(32-turn)
}

// fits is whether n is a number of size bytes, size being from 1 to 8.
func fits(n, size int) bool {
	if n < 0 {
		return false
	}
	if size == len(shifts) {
		return n <= greatest
	}
	return n>>shifts[size] == 0
}

// spread is the lowest size bytes of x, size being from 1 to 8.
func spread(x uint64, size int) []byte {
	b := make([]byte, size)
	for i := range b {
		b[i] = byte(x >> shifts[size-1-i])
	}
	return b
}

// gather is the number that spread took apart, of at most 8 bytes.
func gather(b []byte) uint64 {
	var x uint64
	for i, c := range b {
		x |= uint64(c) << shifts[len(b)-1-i]
	}
	return x
}
