package wire_test

import (
	"bytes"
	"encoding/binary"
	"math/rand"
	"testing"

	"packtrain/api"
	"packtrain/wire"
)

// framed is a frame as the chapter says.
func framed(p string) []byte {
	b := binary.BigEndian.AppendUint32(nil, uint32(len(p)))
	b = append(b, p...)
	return binary.BigEndian.AppendUint32(b, adler(b))
}

// checkUnframe looks at all results of Unframe.
func checkUnframe(t *testing.T, b []byte, p string, n int, e api.Errno) {
	t.Helper()
	gotP, gotN, gotE := wire.Unframe(b)
	if gotP != p || gotN != n || gotE != e {
		t.Errorf("Unframe of %d bytes: %d bytes, %d, %d; want %d bytes, %d, %d",
			len(b), len(gotP), gotN, gotE, len(p), n, e)
	}
}

// The chapter's examples.
func TestFrameExamples(t *testing.T) {
	checkUnframe(t, append(mustFrame(t, "a"), 'x'), "a", 9, api.OK)
	checkUnframe(t, []byte{0, 0, 0}, "", 0, api.ErrMore)
	if f := mustFrame(t, "a"); string(f) != "\x00\x00\x00\x01a\x00\x68\x00\x63" {
		t.Errorf("Frame of a is %x", f)
	}
}

// P1.1: Frame, and P1.3: what is written is read back.
func TestFrameAndBack(t *testing.T) {
	for _, n := range []int{0, 1, 2, 255, 256, 300, 65535, 65536, api.MaxPiece - 1, api.MaxPiece} {
		p := text(n)
		f := mustFrame(t, p)
		if !bytes.Equal(f, framed(p)) {
			t.Errorf("Frame of %d bytes is another one", n)
		}
		checkUnframe(t, f, p, n+8, api.OK)
		checkUnframe(t, append(f, 0), p, n+8, api.OK)
	}
}

// P1.1: Frame returns the error of Piece.
func TestFrameRejectsMoreThanMaxPiece(t *testing.T) {
	for _, n := range []int{api.MaxPiece + 1, 3 * api.MaxPiece} {
		if f, e := wire.Frame(text(n)); e != api.ErrLong || len(f) != 0 {
			t.Errorf("Frame of %d bytes: %d, %d bytes", n, e, len(f))
		}
	}
}

// P1.1: a frame that does not end. Its other bytes are in the spare capacity,
// which is not read.
func TestUnframeWithoutEnd(t *testing.T) {
	for _, p := range []string{"", "a", "a piece", text(300)} {
		f := framed(p)
		for n := range f {
			checkUnframe(t, f[:n], "", 0, api.ErrMore)
		}
	}
	checkUnframe(t, nil, "", 0, api.ErrMore)
	longest := framed(text(api.MaxPiece))
	for _, n := range []int{4, 5, api.MaxPiece + 4, api.MaxPiece + 7} {
		checkUnframe(t, longest[:n], "", 0, api.ErrMore)
	}
}

// P1.1: a frame that does not end is not held against its checksum yet.
func TestUnframeWithoutEndMayBeChanged(t *testing.T) {
	f := framed("a piece")
	f[5] ^= 1
	checkUnframe(t, f[:len(f)-1], "", 0, api.ErrMore)
	checkUnframe(t, f, "", 0, api.ErrBad)
}

// P1.1: a length above MaxPiece is bad as soon as it is there.
func TestUnframeOfTooLong(t *testing.T) {
	for _, size := range []uint32{api.MaxPiece + 1, api.MaxPiece << 1, 1 << 24, 1 << 31, 1<<32 - 8, 1<<32 - 4, 1<<32 - 1} {
		b := binary.BigEndian.AppendUint32(nil, size)
		checkUnframe(t, b, "", 0, api.ErrBad)
		checkUnframe(t, append(b, 1, 2, 3, 4, 5), "", 0, api.ErrBad)
		checkUnframe(t, b[:3], "", 0, api.ErrMore)
	}
	checkUnframe(t, framed(text(api.MaxPiece+1)), "", 0, api.ErrBad)
	checkUnframe(t, binary.BigEndian.AppendUint32(nil, api.MaxPiece), "", 0, api.ErrMore)
}

// P1.1: another checksum, by a change of the piece or of the checksum.
func TestUnframeOfChangedByte(t *testing.T) {
	for _, p := range []string{"", "a", text(300), text(5000)} {
		f := framed(p)
		for i := 4; i < len(f); i++ {
			for _, by := range []byte{1, 128, 255} {
				f[i] += by
				checkUnframe(t, f, "", 0, api.ErrBad)
				f[i] -= by
			}
		}
	}
}

// P1.1: the checksum is that of the length, too.
func TestUnframeOfChecksumWithoutLength(t *testing.T) {
	b := append([]byte{0, 0, 0, 3}, "abc"...)
	checkUnframe(t, binary.BigEndian.AppendUint32(b, adler([]byte("abc"))), "", 0, api.ErrBad)
	b = append([]byte{0, 0, 0, 3}, "abc"...)
	checkUnframe(t, binary.LittleEndian.AppendUint32(b, adler(b)), "", 0, api.ErrBad)
	b = append([]byte{3, 0, 0, 0}, "abc"...)
	checkUnframe(t, binary.BigEndian.AppendUint32(b, adler(b)), "", 0, api.ErrBad)
}

// P1.3: no other bytes encode a piece: what is read is written as it was.
func TestNoOtherBytesAreAFrame(t *testing.T) {
	random := rand.New(rand.NewSource(1))
	whole := 0
	for range 20000 {
		f := framed(text(random.Intn(6)))
		if random.Intn(2) > 0 {
			f[random.Intn(len(f))] = byte(random.Intn(4))
		}
		p, n, e := wire.Unframe(f)
		if e == api.OK && string(framed(p)) != string(f[:n]) {
			t.Fatalf("%x is read as the frame of %q", f, p)
		}
		if e == api.OK {
			whole++
		}
	}
	if whole < 5000 {
		t.Errorf("only %d frames were read", whole)
	}
}

// Several frames, one after the other, are read one after the other.
func TestUnframeOneAfterTheOther(t *testing.T) {
	pieces := []string{"first", "", "third", text(1000)}
	var b []byte
	for _, p := range pieces {
		b = append(b, mustFrame(t, p)...)
	}
	for _, want := range pieces {
		p, n, e := wire.Unframe(b)
		if p != want || e != api.OK {
			t.Fatalf("%d bytes, %d", len(p), e)
		}
		b = b[n:]
	}
	checkUnframe(t, b, "", 0, api.ErrMore)
}

// Rule 3: what is unframed does not change with the bytes it was read from.
func TestUnframeKeepsNothing(t *testing.T) {
	f := framed("a piece")
	p, _, _ := wire.Unframe(f)
	if string(f) != string(framed("a piece")) {
		t.Error("the argument was changed")
	}
	clear(f)
	if p != "a piece" {
		t.Errorf("the piece became %q", p)
	}
}
