package digest_test

import (
	"bytes"
	"math/rand"
	"testing"

	"packtrain/api"
	"packtrain/digest"
)

// P2.2: a hash of no bytes.
func TestNewHashIsEmpty(t *testing.T) {
	h := digest.New()
	checkHash(t, h, nil)
	for _, b := range [][]byte{nil, {}} {
		mustWrite(t, h, b)
		checkHash(t, h, nil)
	}
}

// P2.3: everything in one part, for each length about the edges of blocks.
func TestWriteInOnePart(t *testing.T) {
	for n := range 300 {
		h, b := digest.New(), some(int64(n), n)
		mustWrite(t, h, b)
		checkHash(t, h, b)
	}
}

// P2.3: all ways of two parts, and a third one that is empty.
func TestWriteInTwoParts(t *testing.T) {
	for _, n := range []int{1, 2, 55, 56, 63, 64, 65, 127, 128, 129, 200} {
		b := some(3, n)
		for at := range n + 1 {
			h := digest.New()
			mustWrite(t, h, b[:at])
			mustWrite(t, h, nil)
			mustWrite(t, h, b[at:])
			checkHash(t, h, b)
		}
	}
}

// P2.3: all parts of one length, with what was written so far known after
// each of them: the bytes stay when the digest is asked for.
func TestSumBetweenParts(t *testing.T) {
	b := some(4, 330)
	for _, size := range []int{1, 2, 7, 32, 63, 64, 65, 128, 130} {
		h := digest.New()
		for at := 0; at < len(b); at += size {
			mustWrite(t, h, b[at:min(at+size, len(b))])
			for range 2 {
				checkHash(t, h, b[:min(at+size, len(b))])
			}
		}
	}
}

// P2.3: any parts.
func TestWriteInAnyParts(t *testing.T) {
	random := rand.New(rand.NewSource(6))
	for range 300 {
		h := digest.New()
		var b []byte
		for range random.Intn(12) {
			part := some(random.Int63(), random.Intn([]int{3, 64, 70, 200, 5000}[random.Intn(5)]))
			mustWrite(t, h, part)
			b = append(b, part...)
		}
		checkHash(t, h, b)
		if h.Sum() != digest.Of(b) {
			t.Fatalf("Sum of %d bytes is not Of", len(b))
		}
	}
}

// P2.3: many bytes, in few parts and byte by byte.
func TestWriteManyBytes(t *testing.T) {
	b := some(8, 1<<20+77)
	h := digest.New()
	mustWrite(t, h, b[:5])
	mustWrite(t, h, b[5:1<<19])
	mustWrite(t, h, b[1<<19:])
	checkHash(t, h, b)
	h = digest.New()
	for i := range b[:70000] {
		mustWrite(t, h, b[i:i+1])
	}
	checkHash(t, h, b[:70000])
}

// P2.2 and rule 7: an invalid hash, which remains so.
func TestInvalidHash(t *testing.T) {
	for name, h := range map[string]*digest.Hash{"nil": nil, "zero": new(digest.Hash), "literal": {}} {
		for _, b := range [][]byte{nil, {}, []byte("abc"), some(1, 64), some(1, 200)} {
			if e := h.Write(b); e != api.ErrNil {
				t.Errorf("%s: Write of %d bytes: %d", name, len(b), e)
			}
			if d, n := h.Sum(), h.Size(); d != (api.Digest{}) || n != 0 {
				t.Errorf("%s: %x, %d", name, d, n)
			}
		}
	}
}

// Rule 3: a hash keeps nothing of the bytes it was given, changes none, and
// does not read their spare capacity.
func TestWriteKeepsNothing(t *testing.T) {
	for _, n := range []int{1, 63, 64, 65, 200} {
		h, b := digest.New(), some(9, n)
		room := append(bytes.Clone(b), 1, 2, 3)
		mustWrite(t, h, room[:n])
		if !bytes.Equal(room, append(bytes.Clone(b), 1, 2, 3)) {
			t.Fatalf("the argument of %d bytes was changed", n)
		}
		clear(room)
		checkHash(t, h, b)
	}
}

// Two hashes do not know of each other, nor of Of.
func TestHashesAreApart(t *testing.T) {
	g, h := digest.New(), digest.New()
	mustWrite(t, g, []byte("one"))
	mustWrite(t, h, some(1, 100))
	digest.Of([]byte("other"))
	mustWrite(t, g, []byte(" more"))
	checkHash(t, g, []byte("one more"))
	checkHash(t, h, some(1, 100))
	checkHash(t, digest.New(), nil)
}
