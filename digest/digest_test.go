package digest_test

import (
	"bytes"
	"math"
	"testing"

	"packtrain/digest"
)

// The chapter's examples.
func TestExamples(t *testing.T) {
	for b, want := range map[string]string{
		"":    "e3b0c44298fc1c149afbf4c8996fb92427ae41e4649b934ca495991b7852b855",
		"abc": "ba7816bf8f01cfea414140de5dae2223b00361a396177a9cb410ff61f20015ad",
	} {
		if got := digest.Text(digest.Of([]byte(b))); got != want {
			t.Errorf("the digest of %q is %s, not %s", b, got, want)
		}
	}
	if got := digest.Begin()[0]; got != 0x6a09e667 {
		t.Errorf("the first word of Begin is %x", got)
	}
	if got := digest.Constants()[0]; got != 0x428a2f98 {
		t.Errorf("the first word of Constants is %x", got)
	}
}

// P2.1: Of, for each length about the edges of the first blocks.
func TestOf(t *testing.T) {
	for n := range 400 {
		for _, b := range [][]byte{some(int64(n), n), make([]byte, n), bytes.Repeat([]byte{255}, n)} {
			if got := digest.Of(b); got != known(b) {
				t.Errorf("the digest of %d bytes is %x, not %x", n, got, known(b))
			}
		}
	}
}

// P2.1: Of, for nothing at all and for many bytes, whose bits are a number of
// more than one byte.
func TestOfNoneAndMany(t *testing.T) {
	if got := digest.Of(nil); got != known(nil) {
		t.Errorf("the digest of nil is %x", got)
	}
	for _, n := range []int{8191, 8192, 65535, 65536, 1 << 20, 1<<21 - 9, 1 << 21, 1<<21 + 55, 1<<22 + 56} {
		b := some(5, n)
		if got := digest.Of(b); got != known(b) {
			t.Errorf("the digest of %d bytes is %x, not %x", n, got, known(b))
		}
	}
}

// P2.1: the digest is the state after all blocks of the padded message.
func TestOfIsTheLastState(t *testing.T) {
	for _, n := range []int{0, 1, 3, 55, 56, 63, 64, 65, 119, 120, 128, 1000} {
		b := some(7, n)
		whole := append(bytes.Clone(b), digest.Pad(n)...)
		s := digest.Begin()
		for len(whole) > 0 {
			s = digest.Block(s, [64]byte(whole))
			whole = whole[64:]
		}
		d := digest.Of(b)
		for i := range d {
			if want := byte(s[i/4] >> (8 * (3 - i%4))); d[i] != want {
				t.Fatalf("byte %d of the digest of %d bytes is %x, not %x", i, n, d[i], want)
			}
		}
	}
}

// Rule 3: Of changes nothing, and does not read spare capacity.
func TestOfReadsItsArgumentAlone(t *testing.T) {
	b := append(some(1, 200), 1, 2, 3)
	was := string(b)
	for _, n := range []int{0, 1, 55, 64, 100, 200} {
		if got := digest.Of(b[:n]); got != known([]byte(was)[:n]) {
			t.Errorf("the digest of %d bytes is %x", n, got)
		}
		if string(b) != was {
			t.Fatalf("the argument of %d bytes was changed", n)
		}
	}
}

// P2.1: Pad.
func TestPad(t *testing.T) {
	for n := range 400 {
		if got, want := digest.Pad(n), padded(make([]byte, n))[n:]; !bytes.Equal(got, want) {
			t.Errorf("Pad(%d) is %x, not %x", n, got, want)
		}
	}
}

// P2.1: Pad at the edges of a block, written out.
func TestPadOfBlockEdges(t *testing.T) {
	for n, size := range map[int]int{0: 64, 1: 63, 54: 10, 55: 9, 56: 72, 63: 65, 64: 64, 119: 9, 120: 72} {
		b := digest.Pad(n)
		if len(b) != size || b[0] != 128 {
			t.Errorf("Pad(%d) has %d bytes, not %d, and begins with %d", n, len(b), size, b[0])
		}
	}
	if got := digest.Pad(55); string(got) != "\x80\x00\x00\x00\x00\x00\x00\x01\xb8" {
		t.Errorf("Pad(55) is %x", got)
	}
}

// P2.1: Pad of less than 0 is that of 0.
func TestPadBelowZero(t *testing.T) {
	want := padded(nil)
	for _, n := range []int{-1, -2, -8, -9, -63, -64, -65, math.MinInt32, math.MinInt + 1, math.MinInt} {
		if got := digest.Pad(n); !bytes.Equal(got, want) {
			t.Errorf("Pad(%d) is %x, not %x", n, got, want)
		}
	}
}

// P2.1: Pad of lengths that no test has the bytes of.
func TestPadOfManyBytes(t *testing.T) {
	for n, want := range map[int]string{
		1<<29 - 1:         "\x00\x00\x00\x00\xff\xff\xff\xf8",
		1 << 29:           "\x00\x00\x00\x01\x00\x00\x00\x00",
		math.MaxInt32:     "\x00\x00\x00\x03\xff\xff\xff\xf8",
		0x123456789abcdef: "\x09\x1a\x2b\x3c\x4d\x5e\x6f\x78",
		1<<61 - 1:         "\xff\xff\xff\xff\xff\xff\xff\xf8",
	} {
		b := digest.Pad(n)
		zeros := b[1 : len(b)-8]
		if b[0] != 128 || bytes.Count(zeros, []byte{0}) != len(zeros) || string(b[len(b)-8:]) != want {
			t.Errorf("Pad(%d) is %x", n, b)
		}
		if (n%64+len(b))%64 != 0 || len(zeros) > 63 {
			t.Errorf("Pad(%d) has %d bytes", n, len(b))
		}
	}
}

// T6: Pad returns for all arguments.
func TestPadOfGreatestNumbers(t *testing.T) {
	for _, n := range []int{1 << 61, 1 << 62, math.MaxInt - 8, math.MaxInt} {
		if b := digest.Pad(n); b[0] != 128 || (n%64+len(b))%64 != 0 {
			t.Errorf("Pad(%d) is %x", n, b)
		}
	}
}

// Rule 3: what Pad returns is new memory.
func TestPadIsNewMemory(t *testing.T) {
	first := digest.Pad(20)
	first = first[:cap(first)]
	for i := range first {
		first[i] = 0xa5
	}
	if got, want := digest.Pad(20), padded(make([]byte, 20))[20:]; !bytes.Equal(got, want) {
		t.Errorf("Pad(20) became %x", got)
	}
}
