// Package varint is layer 1: see shared/doc/01-varint.md.
package varint

import "threshing/api"

const (
	// more is the bit of a byte behind which another byte of the same varint follows.
	more = 128
	// longest is how many groups of 7 bits a number of 64 bits needs.
	longest = 10
	// topGroup is all that the 64th bit leaves for the last of so many groups.
	topGroup = 1
)

// Put returns b followed by the varint of n.
func Put(b []byte, n uint64) []byte {
	return add(grown(b, Size(n)), n)
}

// Take returns the number whose varint b begins with, and the remaining bytes.
func Take(b []byte) (uint64, []byte, api.Errno) {
	n, size, e := number(b)
	if e != api.OK {
		return 0, nil, e
	}
	return n, grown(b[size:], 0), api.OK
}

// Frame returns b followed by the frame of s.
func Frame(b []byte, s string) []byte {
	return addFrame(grown(b, frameSize(s)), s)
}

// TakeFrame returns the string whose frame b begins with, if it has at most
// most bytes, and the remaining bytes.
func TakeFrame(b []byte, most int) (string, []byte, api.Errno) {
	s, size, e := frame(b, most)
	if e != api.OK {
		return "", nil, e
	}
	return s, grown(b[size:], 0), api.OK
}

// Pair returns b followed by the frames of the key and of the value.
func Pair(b []byte, p api.Pair) []byte {
	out := grown(b, frameSize(p.K)+frameSize(p.V))
	return addFrame(addFrame(out, p.K), p.V)
}

// TakePair returns the pair whose frames b begins with, if each of its strings
// has at most most bytes, and the remaining bytes.
func TakePair(b []byte, most int) (api.Pair, []byte, api.Errno) {
	k, sizeK, e := frame(b, most)
	if e != api.OK {
		return api.Pair{}, nil, e
	}
	v, sizeV, e := frame(b[sizeK:], most)
	if e != api.OK {
		return api.Pair{}, nil, e
	}
	return api.Pair{K: k, V: v}, grown(b[sizeK+sizeV:], 0), api.OK
}

// Fold returns the zigzag encoding of n.
func Fold(n int) uint64 {
	if n < 0 {
		// -n - 1 rather than -n: the least number has no positive counterpart.
		return uint64(-(n+1))*2 + 1
	}
	return uint64(n) * 2
}

// Unfold returns the integer whose zigzag encoding is u.
func Unfold(u uint64) int {
	half := int(u / 2)
	if u%2 == 1 {
		return -half - 1
	}
	return half
}

// Size returns how many bytes the varint of n has.
func Size(n uint64) int {
	size := 1
	for n >= more {
		n >>= 7
		size++
	}
	return size
}

// grown copies b into new memory with room for extra bytes: appending to b
// itself could write beyond its length, into memory that is the caller's.
func grown(b []byte, extra int) []byte {
	out := make([]byte, len(b), len(b)+extra)
	copy(out, b)
	return out
}

// add appends the varint of n to bytes that are the package's own.
func add(out []byte, n uint64) []byte {
	for n >= more {
		out = append(out, byte(n%more)+more)
		n >>= 7
	}
	return append(out, byte(n))
}

// addFrame appends the frame of s to bytes that are the package's own.
func addFrame(out []byte, s string) []byte {
	return append(add(out, uint64(len(s))), s...)
}

// frameSize returns how many bytes the frame of s has.
func frameSize(s string) int {
	return Size(uint64(len(s))) + len(s)
}

// number returns the number whose varint b begins with, and the varint's size.
func number(b []byte) (uint64, int, api.Errno) {
	n := uint64(0)
	for i, c := range b {
		if c < more {
			if i > 0 && c == 0 || i == longest-1 && c > topGroup {
				return 0, 0, api.ErrForm
			}
			return n + uint64(c)<<(7*i), i + 1, api.OK
		}
		if i == longest-1 {
			return 0, 0, api.ErrForm
		}
		n += uint64(c-more) << (7 * i)
	}
	return 0, 0, api.ErrShort
}

// frame returns the string whose frame b begins with, and the frame's size.
func frame(b []byte, most int) (string, int, api.Errno) {
	n, size, e := number(b)
	if e != api.OK {
		return "", 0, e
	}
	// The lengths are compared unsigned: one of 2^63 or more does not fit an int.
	if most < 0 || n > uint64(most) {
		return "", 0, api.ErrLarge
	}
	if n > uint64(len(b)-size) {
		return "", 0, api.ErrShort
	}
	end := size + int(n)
	return string(b[size:end]), end, api.OK
}
