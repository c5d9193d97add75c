package wire_test

import (
	"bytes"
	"math/big"
	"math/rand"
	"slices"
	"testing"

	"packtrain/api"
	"packtrain/wire"
)

// edges are numbers at which the encoding gets longer, and their neighbours.
func edges() []uint64 {
	xs := []uint64{300, 1<<20 - 1, 1 << 20, 1<<20 + 1, 1<<32 - 1, 1 << 32}
	for bits := 0; bits < 64; bits += 7 {
		xs = append(xs, 1<<bits-1, 1<<bits, 1<<bits+1)
	}
	return append(xs, 1<<63-1, 1<<63, 1<<64-2, 1<<64-1)
}

// encoded is a number as the chapter says, by digits of base 128.
func encoded(x uint64) []byte {
	rest, digit := new(big.Int).SetUint64(x), new(big.Int)
	var b []byte
	for first := true; first || rest.Sign() > 0; first = false {
		rest.DivMod(rest, big.NewInt(128), digit)
		c := byte(digit.Uint64())
		if !first {
			c += 128
		}
		b = slices.Insert(b, 0, c)
	}
	return b
}

// decoded is what the chapter says of reading a number from b: the least
// number that may begin with these bytes decides whether it is too much.
func decoded(b []byte) (x uint64, size int, e api.Errno) {
	if len(b) > 0 && b[0] == 128 {
		return 0, 0, api.ErrBad
	}
	least, ended := new(big.Int), false
	for _, c := range b {
		size++
		least.Lsh(least, 7).Add(least, big.NewInt(int64(c&127)))
		if ended = c < 128; ended {
			break
		}
	}
	if !ended {
		least.Lsh(least, 7)
	}
	switch {
	case !least.IsUint64():
		return 0, 0, api.ErrBad
	case !ended:
		return 0, 0, api.ErrMore
	}
	return least.Uint64(), size, api.OK
}

// adler is the checksum as the chapter says, byte by byte.
func adler(b []byte) uint32 {
	low, high := uint32(1), uint32(0)
	for _, c := range b {
		low = (low + uint32(c)) % 65521
		high = (high + low) % 65521
	}
	return high*65536 + low
}

// some are n bytes, the same ones for the same seed.
func some(seed int64, n int) []byte {
	b := make([]byte, n)
	rand.New(rand.NewSource(seed)).Read(b)
	return b
}

// text is a string of n bytes.
func text(n int) string {
	return string(some(int64(n), n))
}

// checkNewMemory calls f with bytes that have spare capacity, and looks
// whether f touches them, or returns memory that is theirs.
func checkNewMemory(t *testing.T, f func(b []byte) []byte) {
	t.Helper()
	room := bytes.Repeat([]byte{0xa5}, 64)
	for _, n := range []int{0, 1, 5, 32} {
		got := f(room[:n])
		want := bytes.Clone(got)
		if !bytes.HasPrefix(got, room[:n]) {
			t.Errorf("%d bytes are not at the beginning of %x", n, got)
		}
		if bytes.Count(room, []byte{0xa5}) != 64 {
			t.Fatalf("an argument of %d bytes was changed: %x", n, room)
		}
		for i := range room {
			room[i] = 0x5a
		}
		if !bytes.Equal(got, want) {
			t.Errorf("a result shares memory with its argument of %d bytes", n)
		}
		clear(got[:cap(got)])
		if bytes.Count(room, []byte{0x5a}) != 64 {
			t.Fatalf("a result shares its memory with its argument of %d bytes", n)
		}
		for i := range room {
			room[i] = 0xa5
		}
	}
}

// mustFrame is the frame of p.
func mustFrame(t *testing.T, p string) []byte {
	t.Helper()
	f, e := wire.Frame(p)
	if e != api.OK {
		t.Fatalf("Frame of %d bytes: %d", len(p), e)
	}
	return f
}

// checkReader looks at what is left, and at the first error.
func checkReader(t *testing.T, r *wire.Reader, left int, e api.Errno) {
	t.Helper()
	if r.Left() != left || r.Err() != e {
		t.Errorf("left %d, error %d; want %d, %d", r.Left(), r.Err(), left, e)
	}
}
