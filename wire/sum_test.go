package wire_test

import (
	"bytes"
	"hash/adler32"
	"math"
	"testing"

	"packtrain/api"
	"packtrain/wire"
)

// lengths of bytes around those at which sums are likely to be reduced.
var lengths = []int{0, 1, 2, 3, 255, 256, 257, 5000, 5551, 5552, 5553, 65520, 65521, 65522, 65535, 65536, 65537, 1 << 20, 1<<20 + 3}

// The chapter's examples.
func TestSumExamples(t *testing.T) {
	for p, want := range map[string]uint32{"abc": 38600999, "": 1, "\x00": 65537, "Wikipedia": 0x11e60398} {
		if got := wire.Sum([]byte(p)); got != want {
			t.Errorf("Sum of %q is %d, not %d", p, got, want)
		}
	}
	if got := wire.Sum(nil); got != 1 {
		t.Errorf("Sum of nil is %d", got)
	}
}

// P1.1: Sum.
func TestSumIsAdlers(t *testing.T) {
	for _, n := range lengths {
		for _, b := range [][]byte{some(3, n), make([]byte, n), bytes.Repeat([]byte{255}, n)} {
			if got := wire.Sum(b); got != adler(b) || got != adler32.Checksum(b) {
				t.Errorf("Sum of %d bytes is %d, not %d", n, got, adler(b))
			}
		}
	}
}

// P1.1: Sum of so many bytes that sums which are never reduced are too much.
func TestSumOfManyBytes(t *testing.T) {
	b := bytes.Repeat([]byte{255}, 1<<25)
	if got, want := wire.Sum(b), adler32.Checksum(b); got != want {
		t.Errorf("Sum is %d, not %d", got, want)
	}
}

// Rule 3: the spare capacity of an argument is not read, nor itself changed.
func TestSumReadsItsArgumentAlone(t *testing.T) {
	b := []byte("abcdef")
	if got := wire.Sum(b[:3]); got != 38600999 || string(b) != "abcdef" {
		t.Errorf("Sum is %d, and its argument %q", got, b)
	}
}

// P1.3: Join of two checksums is that of both byte strings.
func TestJoinOfBothParts(t *testing.T) {
	for _, n := range lengths[:len(lengths)-2] {
		for _, m := range []int{0, 1, 2, 300, 65521, 70000} {
			for seed, both := range [][]byte{some(9, n+m), bytes.Repeat([]byte{255}, n+m), make([]byte, n+m)} {
				got, e := wire.Join(wire.Sum(both[:n]), wire.Sum(both[n:]), m)
				if e != api.OK || got != adler(both) {
					t.Errorf("%d and %d bytes (%d): %d, %d, not %d", n, m, seed, got, e, adler(both))
				}
			}
		}
	}
}

// joined is the formula of P1.1, in steps that can't be too much.
func joined(a, b uint32, n int) uint32 {
	p, q := int64(a%65536), int64(b%65536)
	low := ((p+q-1)%65521 + 65521) % 65521
	add := int64(n) % 65521 * (p - 1)
	high := ((int64(a/65536)+int64(b/65536)+add)%65521 + 65521) % 65521
	return uint32(high)*65536 + uint32(low)
}

// P1.1: Join for any halves, whether there are such bytes or not.
func TestJoinOfAnyHalves(t *testing.T) {
	halves := []uint32{0, 1, 2, 300, 32768, 65519, 65520}
	counts := []int{0, 1, 2, 65520, 65521, 65522, 1 << 20, math.MaxInt32, math.MaxInt - 1, math.MaxInt}
	for _, la := range halves {
		for _, ha := range halves {
			for _, lb := range halves {
				for _, hb := range halves {
					for _, n := range counts {
						a, b := ha<<16|la, hb<<16|lb
						if got, e := wire.Join(a, b, n); e != api.OK || got != joined(a, b, n) {
							t.Fatalf("Join(%#x, %#x, %d): %#x, %d, not %#x", a, b, n, got, e, joined(a, b, n))
						}
					}
				}
			}
		}
	}
}

// P1.1: what Join rejects.
func TestJoinRejects(t *testing.T) {
	for _, c := range []struct {
		a, b uint32
		n    int
	}{
		{65521, 1, 0},
		{1, 65521, 0},
		{65521 << 16, 1, 0},
		{1, 65521 << 16, 0},
		{65535, 1, 5},
		{1, 65535 << 16, 5},
		{math.MaxUint32, math.MaxUint32, 0},
		{1, 1, -1},
		{1, 1, math.MinInt},
		{math.MaxUint32, 1, -1},
	} {
		if got, e := wire.Join(c.a, c.b, c.n); got != 0 || e != api.ErrArg {
			t.Errorf("Join(%#x, %#x, %d): %d, %d", c.a, c.b, c.n, got, e)
		}
	}
}

// P1.3: changing a byte changes the checksum.
func TestChangedByteChangesSum(t *testing.T) {
	for _, n := range []int{1, 2, 17, 5000} {
		for _, b := range [][]byte{some(1, n), make([]byte, n), bytes.Repeat([]byte{255}, n)} {
			was := wire.Sum(b)
			for i := range b {
				for _, by := range []byte{1, 128, 255} {
					b[i] += by
					if wire.Sum(b) == was {
						t.Fatalf("byte %d of %d changed by %d: the same checksum", i, n, by)
					}
					b[i] -= by
				}
			}
		}
	}
}
