// Package wire encodes numbers, pieces and lists, and computes a checksum.
package wire

import (
	"slices"

	"packtrain/api"
)

// more is added to each byte of a number except the last one.
const more = 1 << 7

// Number returns b followed by x.
func Number(b []byte, x uint64) []byte {
	return concat(b, groups(x))
}

// Piece returns b followed by p.
func Piece(b []byte, p string) ([]byte, api.Errno) {
	if len(p) > api.MaxPiece {
		return nil, api.ErrLong
	}
	return concat(b, groups(uint64(len(p))), []byte(p)), api.OK
}

// groups returns x in groups of seven bits, the highest one first.
func groups(x uint64) []byte {
	b := []byte{byte(x % more)}
	for x /= more; x > 0; x /= more {
		b = append(b, more+byte(x%more))
	}
	slices.Reverse(b)
	return b
}

// concat returns the parts, one after the other. It never appends to a part,
// because the spare capacity of an argument belongs to the caller.
func concat(parts ...[]byte) []byte {
	size := 0
	for _, p := range parts {
		size += len(p)
	}
	whole := make([]byte, 0, size)
	for _, p := range parts {
		whole = append(whole, p...)
	}
	return whole
}
