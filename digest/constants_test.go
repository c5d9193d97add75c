package digest_test

import (
	"testing"

	"packtrain/digest"
)

// P2.1: Constants, by the cube roots of the first 64 primes.
func TestConstantsAreCubeRoots(t *testing.T) {
	k := digest.Constants()
	for i, p := range primes(64) {
		if want := fraction(p, 3); k[i] != want {
			t.Errorf("word %d, of %d, is %x, not %x", i, p, k[i], want)
		}
	}
}

// P2.1: Begin, by the square roots of the first 8 primes.
func TestBeginIsSquareRoots(t *testing.T) {
	h := digest.Begin()
	for i, p := range primes(8) {
		if want := fraction(p, 2); h[i] != want {
			t.Errorf("word %d, of %d, is %x, not %x", i, p, h[i], want)
		}
	}
}

// P2.1: words of both, written out.
func TestConstantsWrittenOut(t *testing.T) {
	if got, want := digest.Begin(), [8]uint32{
		0x6a09e667, 0xbb67ae85, 0x3c6ef372, 0xa54ff53a, 0x510e527f, 0x9b05688c, 0x1f83d9ab, 0x5be0cd19,
	}; got != want {
		t.Errorf("Begin is %x", got)
	}
	k := digest.Constants()
	for i, want := range map[int]uint32{
		0: 0x428a2f98, 1: 0x71374491, 2: 0xb5c0fbcf, 3: 0xe9b5dba5, 4: 0x3956c25b, 15: 0xc19bf174,
		16: 0xe49b69c1, 31: 0x14292967, 32: 0x27b70a85, 47: 0x106aa070, 48: 0x19a4c116, 62: 0xbef9a3f7, 63: 0xc67178f2,
	} {
		if k[i] != want {
			t.Errorf("word %d of Constants is %x, not %x", i, k[i], want)
		}
	}
}

// T6: what was done with a result before has no part in the next one.
func TestConstantsStay(t *testing.T) {
	k, h := digest.Constants(), digest.Begin()
	clear(k[:])
	clear(h[:])
	digest.Block(h, [64]byte{})
	if digest.Constants()[63] != 0xc67178f2 || digest.Begin()[7] != 0x5be0cd19 {
		t.Error("Constants or Begin became others")
	}
}
