package digest

import "packtrain/api"

// blockSize is how many bytes a block has.
const blockSize = 64

// mark is the first byte behind a message that is padded.
const mark = 128

// lengthSize is how many bytes of a padded message tell its bits.
const lengthSize = 8

// Pad returns what follows n bytes in the padded message.
func Pad(n int) []byte {
	n = max(n, 0)
	// One block more than is needed keeps the number of zeros from being
	// below 0.
	zeros := (2*blockSize - n%blockSize - 1 - lengthSize) % blockSize
	b := make([]byte, 1+zeros, 1+zeros+lengthSize)
	b[0] = mark
	size := 8 * uint64(n)
	for shift := 56; shift >= 0; shift -= 8 {
		b = append(b, byte(size>>shift))
	}
	return b
}

// message is what of a message has to be known to go on with it.
type message struct {
	state [8]uint32       // after its whole blocks
	rest  [blockSize]byte // begins with the bytes behind them
	size  int
}

// begun returns a message of no bytes.
func begun() message {
	return message{state: Begin()}
}

// room returns how many bytes fill the block that is not whole yet.
func (m *message) room() int {
	return blockSize - m.size%blockSize
}

// hold takes as many bytes of b as that block has room for, and returns how
// many they are.
func (m *message) hold(b []byte) int {
	n := copy(m.rest[m.size%blockSize:], b)
	m.size += n
	return n
}

// add appends b, with the constants k.
func (m *message) add(b []byte, k [64]uint32) {
	for len(b) > 0 {
		b = b[m.hold(b):]
		if m.room() == blockSize {
			m.state = mixed(m.state, m.rest, k)
		}
	}
}

// digest returns the digest. It pads a copy, because more may be added to the
// message itself.
func (m message) digest(k [64]uint32) api.Digest {
	m.add(Pad(m.size), k)
	var d api.Digest
	for i := range d {
		d[i] = byte(m.state[i/4] >> (24 - i%4*8))
	}
	return d
}
