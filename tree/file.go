package tree

import "bytes"

// file is a file, whatever paths it has: it stays the same one when these
// change, and as long as a crash may bring one of them back.
type file struct {
	bytes []byte // only appended to, or replaced: so safe may be a part of it
	safe  []byte // as at the last sync
	stamp uint64
}

// remaining returns the bytes of f after a crash: its safe ones, and of those
// after them as many as part says.
func (f *file) remaining(part int) []byte {
	if !bytes.HasPrefix(f.bytes, f.safe) {
		return f.safe
	}
	n := len(f.safe)
	return f.bytes[:n+upTo(part, len(f.bytes)-n)]
}

// upTo returns n as a number from 0 to most: 0 if it is below 0, and modulo
// one more than most if it is above.
func upTo(n, most int) int {
	return max(0, n) % (most + 1)
}
