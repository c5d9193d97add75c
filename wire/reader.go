package wire

import (
	"bytes"
	"math"

	"packtrain/api"
)

// Reader reads bytes from left to right, and keeps its first error.
type Reader struct {
	position
	made bool // tells a reader of no bytes from one that New did not return
	err  api.Errno
}

// New returns a reader of b.
func New(b []byte) *Reader {
	// A copy, because the caller may change b while the reader is in use.
	return &Reader{position: position{bytes: bytes.Clone(b)}, made: true}
}

// Number reads a number.
func (r *Reader) Number() (x uint64) {
	if r.Err() == api.OK {
		x, r.err = r.number()
	}
	return x
}

// Piece reads a piece.
func (r *Reader) Piece() (p string) {
	if r.Err() == api.OK {
		p, r.err = r.piece()
	}
	return p
}

// Count reads a number that is not above most, such as the number of elements
// of a list.
func (r *Reader) Count(most int) (n int) {
	if r.Err() == api.OK {
		n, r.err = r.count(most)
	}
	return n
}

// Left returns how many bytes were not read by calls without an error.
func (r *Reader) Left() int {
	if r.Err() == api.ErrNil {
		return 0
	}
	return r.left()
}

// Err returns the first error.
func (r *Reader) Err() api.Errno {
	if r == nil || !r.made {
		return api.ErrNil
	}
	return r.err
}

// End returns the first error, and ErrBad if there is none and bytes are left.
func (r *Reader) End() api.Errno {
	e := r.Err()
	if e == api.OK && r.left() > 0 {
		return api.ErrBad
	}
	return e
}

// position is how far bytes were read. Its methods that read go on only if
// they have no error: so what an error was found in counts as left.
type position struct {
	bytes []byte
	at    int
}

// left returns how many bytes are behind the position.
func (p *position) left() int {
	return len(p.bytes) - p.at
}

// number reads a number.
func (p *position) number() (uint64, api.Errno) {
	x := uint64(0)
	for i, c := range p.bytes[p.at:] {
		// Leading zero groups would be a second encoding of the same number.
		if i == 0 && c == more {
			return 0, api.ErrBad
		}
		x = x*more + uint64(c%more)
		if c < more {
			p.at += i + 1
			return x, api.OK
		}
		// A group is still to come, which multiplies x: it is too much even
		// if the bytes end here.
		if x > math.MaxUint64/more {
			return 0, api.ErrBad
		}
	}
	return 0, api.ErrMore
}

// piece reads a piece.
func (p *position) piece() (string, api.Errno) {
	next := *p
	size, e := next.number()
	switch {
	case e != api.OK:
		return "", e
	case size > api.MaxPiece:
		return "", api.ErrLong
	case size > uint64(next.left()):
		return "", api.ErrMore
	}
	from := next.at
	next.at += int(size)
	*p = next
	return string(p.bytes[from:p.at]), api.OK
}

// count reads a number that is not above most; a most below 0 counts as 0.
func (p *position) count(most int) (int, api.Errno) {
	next := *p
	x, e := next.number()
	switch {
	case e != api.OK:
		return 0, e
	case x > uint64(max(most, 0)):
		return 0, api.ErrLong
	}
	*p = next
	return int(x), api.OK
}
