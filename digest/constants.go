package digest

import "math/bits"

// primes are the first 64.
var primes = [64]uint64{
	2, 3, 5, 7, 11, 13, 17, 19, 23, 29, 31, 37, 41, 43, 47, 53,
	59, 61, 67, 71, 73, 79, 83, 89, 97, 101, 103, 107, 109, 113, 127, 131,
	137, 139, 149, 151, 157, 163, 167, 173, 179, 181, 191, 193, 197, 199, 211, 223,
	227, 229, 233, 239, 241, 251, 257, 263, 269, 271, 277, 281, 283, 293, 307, 311,
}

// Constants returns K, from the cube roots of the primes.
func Constants() [64]uint32 {
	var k [64]uint32
	for i, p := range primes {
		k[i] = uint32(root(p, cubeBelow))
	}
	return k
}

// Begin returns H, the initial state, from the square roots of the primes.
func Begin() [8]uint32 {
	var h [8]uint32
	for i := range h {
		h[i] = uint32(root(primes[i], squareBelow))
	}
	return h
}

// root returns a root of the prime p, times 2^32, rounded down: so its lower
// half is the first 32 bits of the fractional part. It is found by bisection;
// below tells whether a number is less than the exact root times 2^32.
func root(p uint64, below func(r, p uint64) bool) uint64 {
	// The square root of 19 and the cube root of 311 are less than 8.
	low, high := uint64(0), uint64(8)<<32
	for high-low > 1 {
		middle := (low + high) / 2
		if below(middle, p) {
			low = middle
		} else {
			high = middle
		}
	}
	return low
}

// squareBelow tells whether the square of r is below p times 2^64. The lower
// word need not be compared, because that of p times 2^64 is 0.
func squareBelow(r, p uint64) bool {
	high, _ := bits.Mul64(r, r)
	return high < p
}

// cubeBelow tells whether the cube of r, at most 2^105, is below p times 2^96.
// Here, too, the lower word is 0.
func cubeBelow(r, p uint64) bool {
	high, low := bits.Mul64(r, r)
	carry, _ := bits.Mul64(low, r)
	return high*r+carry < p<<32
}
