package wire_test

import (
	"bytes"
	"testing"

	"packtrain/api"
	"packtrain/wire"
)

// P1.1: Number.
func TestNumberAppendsTheGroups(t *testing.T) {
	for _, x := range edges() {
		for _, before := range []string{"", "\x00", "abc", "\xff\x80"} {
			want := before + string(encoded(x))
			if got := string(wire.Number([]byte(before), x)); got != want {
				t.Errorf("Number(%q, %d) is %q, not %q", before, x, got, want)
			}
		}
	}
}

// The chapter's examples, and the longest number.
func TestNumberExamples(t *testing.T) {
	for _, c := range []struct {
		x    uint64
		want string
	}{
		{0, "\x00"},
		{1, "\x01"},
		{127, "\x7f"},
		{128, "\x81\x00"},
		{300, "\x82\x2c"},
		{16383, "\xff\x7f"},
		{16384, "\x81\x80\x00"},
		{1<<64 - 1, "\x81\xff\xff\xff\xff\xff\xff\xff\xff\x7f"},
	} {
		if got := string(wire.Number(nil, c.x)); got != c.want {
			t.Errorf("Number(nil, %d) is %q, not %q", c.x, got, c.want)
		}
	}
}

// P1.1: Piece.
func TestPieceAppendsLengthAndBytes(t *testing.T) {
	for _, n := range []int{0, 1, 2, 127, 128, 129, 16383, 16384, 1 << 16, api.MaxPiece - 1, api.MaxPiece} {
		for _, before := range []string{"", "x", "\x80\x00\xff"} {
			p := text(n)
			got, e := wire.Piece([]byte(before), p)
			if want := before + string(encoded(uint64(n))) + p; e != api.OK || string(got) != want {
				t.Errorf("Piece of %d bytes after %q: %d, %d bytes", n, before, e, len(got))
			}
		}
	}
}

// P1.1: Piece of too many bytes.
func TestPieceRejectsMoreThanMaxPiece(t *testing.T) {
	for _, n := range []int{api.MaxPiece + 1, api.MaxPiece + 2, 2 * api.MaxPiece} {
		for _, before := range []string{"", "before"} {
			if got, e := wire.Piece([]byte(before), text(n)); e != api.ErrLong || len(got) != 0 {
				t.Errorf("Piece of %d bytes: %d, %d bytes", n, e, len(got))
			}
		}
	}
}

// Rule 3: what is returned is new memory.
func TestWrittenBytesAreNewMemory(t *testing.T) {
	checkNewMemory(t, func(b []byte) []byte { return wire.Number(b, 5) })
	checkNewMemory(t, func(b []byte) []byte { return wire.Number(b, 1<<64-1) })
	for _, p := range []string{"", "abc"} {
		checkNewMemory(t, func(b []byte) []byte {
			got, e := wire.Piece(b, p)
			if e != api.OK {
				t.Error(e)
			}
			return got
		})
	}
}

// Rule 3: an argument is not changed beside an error either.
func TestRejectedPieceChangesNothing(t *testing.T) {
	room := bytes.Repeat([]byte{7}, 32)
	wire.Piece(room[:3], text(api.MaxPiece+1))
	if bytes.Count(room, []byte{7}) != 32 {
		t.Errorf("the argument was changed: %x", room)
	}
}
