package wire

import (
	"slices"

	"packtrain/api"
)

// prime is what both halves of a checksum are reduced by.
const prime = 65521

// stride is how many bytes are summed between two reductions: few enough that
// the sums stay far below 2^64.
const stride = 1 << 16

// Sum returns the checksum of b.
func Sum(b []byte) uint32 {
	low, high := uint64(1), uint64(0)
	for part := range slices.Chunk(b, stride) {
		for _, c := range part {
			low += uint64(c)
			high += low
		}
		low %= prime
		high %= prime
	}
	return checksum(low, high)
}

// Join returns the checksum of the bytes whose checksum is a, followed by n
// bytes whose checksum is b.
func Join(a, b uint32, n int) (uint32, api.Errno) {
	lowA, highA := halves(a)
	lowB, highB := halves(b)
	if n < 0 || max(lowA, highA, lowB, highB) >= prime {
		return 0, api.ErrArg
	}
	// prime is added because a low half of 0, less one, would go below 0.
	less := lowA + prime - 1
	low := (less + lowB) % prime
	high := (highA + highB + uint64(n)%prime*less) % prime
	return checksum(low, high), api.OK
}

// halves returns the low and the high half of a checksum.
func halves(sum uint32) (low, high uint64) {
	return uint64(sum & 0xffff), uint64(sum >> 16)
}

// checksum returns the checksum that has these halves.
func checksum(low, high uint64) uint32 {
	return uint32(high<<16 | low)
}
