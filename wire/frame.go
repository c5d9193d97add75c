package wire

import "packtrain/api"

// word is how many bytes the length and the checksum of a frame have each.
const word = 4

// Frame returns the length of p, p, and the checksum of both.
func Frame(p string) ([]byte, api.Errno) {
	if len(p) > api.MaxPiece {
		return nil, api.ErrLong
	}
	body := concat(bigEndian(uint32(len(p))), []byte(p))
	return concat(body, bigEndian(Sum(body))), api.OK
}

// Unframe returns the piece of the frame at the beginning of b, and how many
// bytes the frame has.
func Unframe(b []byte) (p string, n int, e api.Errno) {
	if len(b) < word {
		return "", 0, api.ErrMore
	}
	size := fromBigEndian(b[:word])
	// No byte that may still come can make such a length a good one.
	if size > api.MaxPiece {
		return "", 0, api.ErrBad
	}
	end := word + int(size)
	if len(b) < end+word {
		return "", 0, api.ErrMore
	}
	if Sum(b[:end]) != fromBigEndian(b[end:end+word]) {
		return "", 0, api.ErrBad
	}
	return string(b[word:end]), end + word, api.OK
}

// bigEndian returns the four bytes of x, the highest one first.
func bigEndian(x uint32) []byte {
	return []byte{byte(x >> 24), byte(x >> 16), byte(x >> 8), byte(x)}
}

// fromBigEndian returns the number whose bytes are b, the highest one first.
func fromBigEndian(b []byte) uint32 {
	x := uint32(0)
	for _, c := range b {
		x = x<<8 | uint32(c)
	}
	return x
}
