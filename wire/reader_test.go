package wire_test

import (
	"math"
	"math/rand"
	"testing"

	"packtrain/api"
	"packtrain/wire"
)

// The chapter's example.
func TestReaderExample(t *testing.T) {
	r := wire.New([]byte{128, 1})
	if x := r.Number(); x != 0 || r.Err() != api.ErrBad {
		t.Errorf("%d, %d", x, r.Err())
	}
}

// P1.2: each number that is written is read, and what follows it is left.
func TestReaderNumber(t *testing.T) {
	for _, x := range edges() {
		for _, after := range []string{"", "\x00", "\x80", "\xff\xff"} {
			r := wire.New(append(encoded(x), after...))
			if got := r.Number(); got != x {
				t.Errorf("%d is read as %d", x, got)
			}
			checkReader(t, r, len(after), api.OK)
		}
	}
}

// checkNumber holds what is read from b against what the chapter says.
func checkNumber(t *testing.T, b []byte) {
	t.Helper()
	want, size, e := decoded(b)
	r := wire.New(b)
	if got := r.Number(); got != want || r.Err() != e || r.Left() != len(b)-size {
		t.Fatalf("%x is read as %d (left %d, error %d), not %d (%d, %d)",
			b, got, r.Left(), r.Err(), want, len(b)-size, e)
	}
	if e == api.OK && string(wire.Number(nil, want)) != string(b[:size]) {
		t.Fatalf("%x is another encoding of %d", b, want)
	}
}

// P1.2: the errors of Number, at their edges.
func TestReaderNumberErrors(t *testing.T) {
	for _, c := range []struct {
		b string
		e api.Errno
	}{
		{"", api.ErrMore},
		{"\x80", api.ErrBad},
		{"\x80\x00", api.ErrBad},
		{"\x80\x80\x01", api.ErrBad},
		{"\x81", api.ErrMore},
		{"\xff", api.ErrMore},
		{"\x81\x80", api.ErrMore},
		{"\x81\x80\x00", api.OK},
		{"\x81\xff\xff\xff\xff\xff\xff\xff\xff\x7f", api.OK},     // 2^64 - 1
		{"\x82\x80\x80\x80\x80\x80\x80\x80\x80\x00", api.ErrBad}, // 2^64
		{"\x82\x80\x80\x80\x80\x80\x80\x80\x80", api.ErrBad},     // shows it already
		{"\xff\xff\xff\xff\xff\xff\xff\xff\xff", api.ErrBad},
		{"\x81\xff\xff\xff\xff\xff\xff\xff\xff", api.ErrMore},
		{"\x82\x80\x80\x80\x80\x80\x80\x80", api.ErrMore},
		{"\xff\xff\xff\xff\xff\xff\xff\xff", api.ErrMore},
		{"\xff\xff\xff\xff\xff\xff\xff\xff\x7f", api.OK},         // 2^63 - 1
		{"\x81\x80\x80\x80\x80\x80\x80\x80\x80\x80", api.ErrBad}, // 2^63, times 128
		{"\x81\x80\x80\x80\x80\x80\x80\x80\x80\x80\x00", api.ErrBad},
	} {
		checkNumber(t, []byte(c.b))
		r := wire.New([]byte(c.b))
		if r.Number(); r.Err() != c.e {
			t.Errorf("%q: %d, not %d", c.b, r.Err(), c.e)
		}
	}
}

// P1.2 and P1.3: all short byte strings.
func TestReaderNumberOfAllShortBytes(t *testing.T) {
	checkNumber(t, nil)
	for a := range 256 {
		checkNumber(t, []byte{byte(a)})
		for b := range 256 {
			checkNumber(t, []byte{byte(a), byte(b)})
		}
	}
}

// P1.2 and P1.3: byte strings that are likely to be near an edge.
func TestReaderNumberOfManyBytes(t *testing.T) {
	random := rand.New(rand.NewSource(2))
	likely := []byte{128, 128, 129, 130, 131, 254, 255, 255, 255, 0, 1, 127}
	for range 100000 {
		b := make([]byte, random.Intn(13))
		for i := range b {
			// The last few of the likely bytes end a number: seldom.
			b[i] = likely[random.Intn(9+random.Intn(4))]
		}
		checkNumber(t, b)
	}
}

// P1.2: Piece.
func TestReaderPiece(t *testing.T) {
	for _, n := range []int{0, 1, 127, 128, 300, 16384, api.MaxPiece - 1, api.MaxPiece} {
		p := text(n)
		b, _ := wire.Piece(nil, p)
		r := wire.New(append(b, "after"...))
		if got := r.Piece(); got != p {
			t.Errorf("a piece of %d bytes is read as one of %d", n, len(got))
		}
		checkReader(t, r, len("after"), api.OK)
	}
}

// P1.2: the errors of Piece.
func TestReaderPieceErrors(t *testing.T) {
	long := append(encoded(api.MaxPiece+1), text(api.MaxPiece+1)...)
	for _, c := range []struct {
		b []byte
		e api.Errno
	}{
		{nil, api.ErrMore},
		{[]byte{128}, api.ErrBad},
		{[]byte{128, 1, 'a'}, api.ErrBad},
		{[]byte{129}, api.ErrMore},
		{[]byte{1}, api.ErrMore},
		{[]byte{3, 'a', 'b'}, api.ErrMore},
		{encoded(api.MaxPiece), api.ErrMore},
		{long[:len(long)-2], api.ErrLong},
		{encoded(api.MaxPiece + 1), api.ErrLong},
		{long, api.ErrLong},
		{encoded(1 << 32), api.ErrLong},
		{encoded(1 << 63), api.ErrLong},
		{encoded(1<<64 - 1), api.ErrLong},
		{[]byte("\x82\x80\x80\x80\x80\x80\x80\x80\x80\x00"), api.ErrBad},
	} {
		r := wire.New(c.b)
		if p := r.Piece(); p != "" {
			t.Errorf("%d bytes: a piece of %d bytes", len(c.b), len(p))
		}
		checkReader(t, r, len(c.b), c.e)
	}
}

// P1.2: Count.
func TestReaderCount(t *testing.T) {
	for _, c := range []struct {
		x    uint64
		most int
		e    api.Errno
	}{
		{0, 0, api.OK},
		{1, 0, api.ErrLong},
		{5, 5, api.OK},
		{5, 4, api.ErrLong},
		{5, 1 << 40, api.OK},
		{0, -1, api.OK},
		{1, -1, api.ErrLong},
		{0, math.MinInt, api.OK},
		{1, math.MinInt, api.ErrLong},
		{300, 300, api.OK},
		{301, 300, api.ErrLong},
		{math.MaxInt, math.MaxInt, api.OK},
		{math.MaxInt, math.MaxInt - 1, api.ErrLong},
		{1 << 63, math.MaxInt, api.ErrLong},
		{1<<64 - 1, math.MaxInt, api.ErrLong},
		{1<<64 - 1, -1, api.ErrLong},
	} {
		b := append(encoded(c.x), 9, 9)
		want, left := int(c.x), 2
		if c.e != api.OK {
			want, left = 0, len(b)
		}
		r := wire.New(b)
		if got := r.Count(c.most); got != want {
			t.Errorf("%d with most %d: %d", c.x, c.most, got)
		}
		checkReader(t, r, left, c.e)
	}
}

// P1.2: Count returns the error of Number first.
func TestReaderCountOfNoNumber(t *testing.T) {
	for b, e := range map[string]api.Errno{"": api.ErrMore, "\xff": api.ErrMore, "\x80\x00": api.ErrBad} {
		r := wire.New([]byte(b))
		if n := r.Count(-1); n != 0 {
			t.Errorf("%q: %d", b, n)
		}
		checkReader(t, r, len(b), e)
	}
}

// P1.2: after an error nothing is read, and the first error stays.
func TestReaderAfterAnError(t *testing.T) {
	for _, c := range []struct {
		name string
		b    string
		fail func(r *wire.Reader)
		e    api.Errno
	}{
		{"Number, bad", "\x01\x80\x02ab", func(r *wire.Reader) { r.Number() }, api.ErrBad},
		{"Count, long", "\x01\x05\x02ab", func(r *wire.Reader) { r.Count(4) }, api.ErrLong},
		{"Piece, more", "\x01\x05\x02ab", func(r *wire.Reader) { r.Piece() }, api.ErrMore},
		{"Piece, long", "\x01\xff\xff\x7fab", func(r *wire.Reader) { r.Piece() }, api.ErrLong},
	} {
		r := wire.New([]byte(c.b))
		if x := r.Number(); x != 1 {
			t.Errorf("%s: %d before", c.name, x)
		}
		c.fail(r)
		for range 2 {
			checkReader(t, r, len(c.b)-1, c.e)
			if x, p, n := r.Number(), r.Piece(), r.Count(99); x != 0 || p != "" || n != 0 {
				t.Errorf("%s: %d, %q, %d afterwards", c.name, x, p, n)
			}
			if r.End() != c.e {
				t.Errorf("%s: End %d", c.name, r.End())
			}
		}
	}
}

// P1.2: End.
func TestReaderEnd(t *testing.T) {
	for _, b := range [][]byte{nil, {}} {
		if r := wire.New(b); r.End() != api.OK || r.Err() != api.OK || r.Left() != 0 {
			t.Errorf("no bytes: %d", r.End())
		}
	}
	if r := wire.New([]byte{0}); r.End() != api.ErrBad {
		t.Errorf("a byte that is left: %d", r.End())
	}
	r := wire.New([]byte{5, 6})
	if r.Number(); r.End() != api.ErrBad {
		t.Errorf("a byte that is left: %d", r.End())
	}
	r = wire.New([]byte{5, 6})
	if x, y := r.Number(), r.Number(); x != 5 || y != 6 || r.End() != api.OK {
		t.Errorf("all is read: %d", r.End())
	}
	r.Number()
	checkReader(t, r, 0, api.ErrMore)
	if r.End() != api.ErrMore {
		t.Errorf("an error at the end: %d", r.End())
	}
}

// Rule 7: an invalid reader.
func TestInvalidReader(t *testing.T) {
	for name, r := range map[string]*wire.Reader{"nil": nil, "zero": new(wire.Reader), "literal": {}} {
		for range 2 {
			if x, p, n := r.Number(), r.Piece(), r.Count(5); x != 0 || p != "" || n != 0 {
				t.Errorf("%s: %d, %q, %d", name, x, p, n)
			}
			checkReader(t, r, 0, api.ErrNil)
			if r.End() != api.ErrNil {
				t.Errorf("%s: End %d", name, r.End())
			}
		}
	}
}

// Rule 3: a reader keeps nothing of the bytes it was given, and changes none.
func TestReaderHasItsOwnBytes(t *testing.T) {
	b, _ := wire.Piece([]byte{5}, "abc")
	was := string(b)
	r := wire.New(b)
	if r.Number(); string(b) != was {
		t.Error("the argument was changed")
	}
	clear(b)
	if p := r.Piece(); p != "abc" || r.End() != api.OK {
		t.Errorf("the reader reads %q, %d", p, r.End())
	}
}

// Rule 3: spare capacity is not read.
func TestReaderLeavesSpareCapacity(t *testing.T) {
	r := wire.New([]byte("\x83abc")[:1])
	if r.Number(); r.Err() != api.ErrMore || r.Left() != 1 {
		t.Errorf("%d, %d", r.Err(), r.Left())
	}
	r = wire.New([]byte("\x03abc")[:3])
	if p := r.Piece(); p != "" || r.Err() != api.ErrMore {
		t.Errorf("%q, %d", p, r.Err())
	}
}

// Rule 3: what is only read is not changed, nor is its spare capacity.
func TestBytesThatAreReadAreNotChanged(t *testing.T) {
	b := append(framed("abc"), 1, 2, 3)
	was := string(b)
	for n := range b {
		wire.Sum(b[:n])
		wire.Unframe(b[:n])
		r := wire.New(b[min(n, 3):n])
		r.Piece()
		r.Number()
		r.End()
		if string(b) != was {
			t.Fatalf("%d bytes: changed to %x", n, b)
		}
	}
}

// Two readers of the same bytes do not know of each other.
func TestReadersAreApart(t *testing.T) {
	b := []byte{1, 2, 3}
	r, s := wire.New(b), wire.New(b)
	if x, y := r.Number(), r.Number(); x != 1 || y != 2 {
		t.Errorf("%d, %d", x, y)
	}
	if x := s.Number(); x != 1 || s.Left() != 2 || r.Left() != 1 {
		t.Errorf("%d, %d, %d", x, s.Left(), r.Left())
	}
}

// P1.3: lists of pieces and numbers are read back as they were written.
func TestWrittenIsReadBack(t *testing.T) {
	random := rand.New(rand.NewSource(3))
	for range 300 {
		var pieces []string
		var numbers []uint64
		for range random.Intn(20) {
			pieces = append(pieces, text(random.Intn(400)))
			numbers = append(numbers, random.Uint64()>>random.Intn(64))
		}
		b := wire.Number(nil, uint64(len(pieces)))
		for i, p := range pieces {
			b = wire.Number(b, numbers[i])
			b, _ = wire.Piece(b, p)
		}
		r := wire.New(b)
		if n := r.Count(20); n != len(pieces) {
			t.Fatalf("%d elements of %d", n, len(pieces))
		}
		for i, p := range pieces {
			if x, got := r.Number(), r.Piece(); x != numbers[i] || got != p {
				t.Fatalf("element %d: %d, %d bytes", i, x, len(got))
			}
		}
		if r.End() != api.OK {
			t.Fatalf("End %d", r.End())
		}
	}
}

// P1.3: no other bytes encode a piece.
func TestNoOtherBytesAreAPiece(t *testing.T) {
	random := rand.New(rand.NewSource(4))
	for range 50000 {
		b := make([]byte, 1+random.Intn(6))
		for i := range b {
			b[i] = []byte{0, 1, 2, 3, 128, 129, 255}[random.Intn(7)]
		}
		r := wire.New(b)
		p := r.Piece()
		if r.Err() != api.OK {
			continue
		}
		if again, e := wire.Piece(nil, p); e != api.OK || string(again) != string(b[:len(b)-r.Left()]) {
			t.Fatalf("%x is another encoding of %q", b, p)
		}
	}
}
