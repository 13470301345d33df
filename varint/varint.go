// Package varint encodes and decodes integers of variable length. It is layer 1: see shared/doc/01-varint.md.
package varint

import "tugger/api"

const (
	more      = 128 // what is added to each byte of an encoding except the last
	mostBytes = 10  // of one encoding: nine bytes hold 63 bits
	mostTenth = 1   // only one bit of 64 is left for a tenth byte
	mostMany  = 100000
	mostOne   = 1<<31 - 1 // the greatest number of Many, which fits into every int
)

// Put returns the encodings of the numbers, one after the other.
func Put(l ...uint64) []byte {
	var b []byte
	for _, n := range l {
		for n >= more {
			b = append(b, byte(n)|more)
			n >>= 7
		}
		b = append(b, byte(n))
	}
	return b
}

// Take returns the number that is encoded at an offset, and the offset after it.
func Take(b []byte, at int) (uint64, int, api.Errno) {
	if at < 0 || at > len(b) {
		return 0, 0, api.ErrArg
	}
	end := at + min(len(b)-at, mostBytes)
	n, size, e := first(b[at:end:end])
	if e != api.OK {
		return 0, 0, e
	}
	return n, at + size, api.OK
}

// first returns the number at the beginning of at most mostBytes bytes, and how many of them encode it.
func first(part []byte) (uint64, int, api.Errno) {
	var n uint64
	for i, c := range part {
		// A last byte 0 would give a number a second encoding, and a tenth byte above 1 would lose bits.
		if i > 0 && c == 0 || i == mostBytes-1 && c > mostTenth {
			return 0, 0, api.ErrForm
		}
		n |= uint64(c%more) << (7 * i)
		if c < more {
			return n, i + 1, api.OK
		}
	}
	return 0, 0, api.ErrShort
}

// Zig maps the integers to the natural numbers, so that those near 0 have short encodings.
func Zig(n int64) uint64 {
	if n >= 0 {
		return 2 * uint64(n)
	}
	// -2n - 1, where -(n + 1) cannot overflow but -n could.
	return 2*uint64(-(n+1)) + 1
}

// Zag returns the integer whose Zig is n.
func Zag(n uint64) int64 {
	if n%2 == 0 {
		return int64(n / 2)
	}
	return -int64(n/2) - 1
}

// Many returns many consecutive numbers from an offset on, none of them greater than most, and the offset after them.
func Many(b []byte, at, many int, most uint64) ([]int, int, api.Errno) {
	if at < 0 || at > len(b) || many < 0 || many > mostMany {
		return nil, 0, api.ErrArg
	}
	var l []int
	for range many {
		n, next, e := Take(b, at)
		if e != api.OK {
			return nil, 0, e
		}
		if n > most || n > mostOne {
			return nil, 0, api.ErrMany
		}
		l = append(l, int(n))
		at = next
	}
	return l, at, api.OK
}

// Bytes returns the encoding of the length of a text, followed by its bytes.
func Bytes(s string) []byte {
	return append(Put(uint64(len(s))), s...)
}

// Text returns the text that Bytes has put at an offset, and the offset after it.
func Text(b []byte, at int) (string, int, api.Errno) {
	size, from, e := Take(b, at)
	if e != api.OK {
		return "", 0, e
	}
	// Compared unsigned: a length above the greatest int must not turn negative.
	if size > uint64(len(b)-from) {
		return "", 0, api.ErrShort
	}
	end := from + int(size)
	return string(b[from:end:end]), end, api.OK
}
