package digest_test

import (
	"crypto/sha256"
	"encoding"
	"encoding/binary"
	"math/big"
	"math/rand"
	"testing"

	"packtrain/api"
	"packtrain/digest"
)

// some are n bytes, the same ones for the same seed.
func some(seed int64, n int) []byte {
	b := make([]byte, n)
	rand.New(rand.NewSource(seed)).Read(b)
	return b
}

// known is the digest of b as the library computes it.
func known(b []byte) api.Digest {
	return sha256.Sum256(b)
}

// padded is a padded message as the chapter says, byte by byte.
func padded(b []byte) []byte {
	p := append([]byte{}, b...)
	p = append(p, 128)
	for (len(p)+8)%64 > 0 {
		p = append(p, 0)
	}
	return binary.BigEndian.AppendUint64(p, 8*uint64(len(b)))
}

// knownBlock is the state s after the block b as the library computes it: its
// hash is given the state, and asked for it again.
func knownBlock(t *testing.T, s [8]uint32, b [64]byte) [8]uint32 {
	t.Helper()
	saved := []byte("sha\x03")
	for _, x := range s {
		saved = binary.BigEndian.AppendUint32(saved, x)
	}
	saved = append(saved, make([]byte, 64+8)...)
	h := sha256.New()
	if err := h.(encoding.BinaryUnmarshaler).UnmarshalBinary(saved); err != nil {
		t.Fatal(err)
	}
	h.Write(b[:])
	saved, err := h.(encoding.BinaryMarshaler).MarshalBinary()
	if err != nil {
		t.Fatal(err)
	}
	for i := range s {
		s[i] = binary.BigEndian.Uint32(saved[4+4*i:])
	}
	return s
}

// primes are the first n, by division.
func primes(n int) []int64 {
	var found []int64
	for p := int64(2); len(found) < n; p++ {
		prime := true
		for _, q := range found {
			prime = prime && p%q > 0
		}
		if prime {
			found = append(found, p)
		}
	}
	return found
}

// fraction is the first 32 bits of the fractional part of the root of p whose
// power is n, one bit after the other.
func fraction(p int64, n int64) uint32 {
	whole := new(big.Int).Lsh(big.NewInt(p), uint(32*n))
	root := new(big.Int)
	for bit := 40; bit >= 0; bit-- {
		root.SetBit(root, bit, 1)
		if new(big.Int).Exp(root, big.NewInt(n), nil).Cmp(whole) > 0 {
			root.SetBit(root, bit, 0)
		}
	}
	return uint32(root.Uint64())
}

// checkHash looks at the digest and at the size of a hash of b.
func checkHash(t *testing.T, h *digest.Hash, b []byte) {
	t.Helper()
	if got := h.Sum(); got != known(b) {
		t.Fatalf("Sum of %d bytes is %x, not %x", len(b), got, known(b))
	}
	if h.Size() != len(b) {
		t.Fatalf("Size of %d bytes is %d", len(b), h.Size())
	}
}

// mustWrite appends b to h.
func mustWrite(t *testing.T, h *digest.Hash, b []byte) {
	t.Helper()
	if e := h.Write(b); e != api.OK {
		t.Fatalf("Write of %d bytes: %d", len(b), e)
	}
}
