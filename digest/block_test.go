package digest_test

import (
	"encoding/binary"
	"testing"

	"packtrain/digest"
)

// Words that are often wrong where words are wrong: 0, the greatest one, and
// those of one bit.
func words() []uint32 {
	xs := []uint32{0, 1<<32 - 1, 0x55555555, 0xaaaaaaaa, 0x01234567, 0xfedcba98}
	for bit := range 32 {
		xs = append(xs, 1<<bit, ^uint32(1<<bit))
	}
	return xs
}

// checkBlock holds Block against the library.
func checkBlock(t *testing.T, s [8]uint32, b [64]byte) {
	t.Helper()
	if got, want := digest.Block(s, b), knownBlock(t, s, b); got != want {
		t.Fatalf("Block(%x, %x) is %x, not %x", s, b, got, want)
	}
}

// P2.1: Block of any state and any block.
func TestBlockOfSome(t *testing.T) {
	for seed := range int64(500) {
		bytes := some(seed, 96)
		var s [8]uint32
		for i := range s {
			s[i] = binary.BigEndian.Uint32(bytes[4*i:])
		}
		checkBlock(t, s, [64]byte(bytes[32:]))
	}
}

// P2.1: Block where one word of the state, or of the block, is not 0.
func TestBlockOfOneWord(t *testing.T) {
	for _, x := range words() {
		for i := range 8 {
			var s [8]uint32
			s[i] = x
			checkBlock(t, s, [64]byte{})
		}
		for i := range 16 {
			var b [64]byte
			binary.BigEndian.PutUint32(b[4*i:], x)
			checkBlock(t, digest.Begin(), b)
		}
	}
}

// P2.1: Block of no bits, of all bits, and of one bit at each place.
func TestBlockOfBits(t *testing.T) {
	var none, all [64]byte
	for i := range all {
		all[i] = 255
	}
	var greatest [8]uint32
	for i := range greatest {
		greatest[i] = 1<<32 - 1
	}
	for _, s := range [][8]uint32{{}, greatest, digest.Begin()} {
		checkBlock(t, s, none)
		checkBlock(t, s, all)
		for bit := range 512 {
			b := none
			b[bit/8] = 1 << (bit % 8)
			checkBlock(t, s, b)
		}
	}
}

// P2.1: Block of the state of the initial one, from the example of abc.
func TestBlockOfABC(t *testing.T) {
	want := [8]uint32{0xba7816bf, 0x8f01cfea, 0x414140de, 0x5dae2223, 0xb00361a3, 0x96177a9c, 0xb410ff61, 0xf20015ad}
	if got := digest.Block(digest.Begin(), [64]byte(padded([]byte("abc")))); got != want {
		t.Errorf("%x", got)
	}
}
