package wal

import (
	"packtrain/api"
	"packtrain/wire"
)

// Scan returns the records of all complete frames from the beginning of b on,
// how many bytes these frames have, and ErrBad if a bad one follows them.
func Scan(b []byte) (s []string, whole int, e api.Errno) {
	for {
		p, n, fault := wire.Unframe(b[whole:])
		switch fault {
		case api.OK:
			s, whole = append(s, p), whole+n
		case api.ErrMore:
			return s, whole, api.OK
		default:
			return s, whole, fault
		}
	}
}

// frames returns the frames of records, one after the other.
func frames(s []string) ([]byte, api.Errno) {
	var b []byte
	for _, p := range s {
		f, e := wire.Frame(p)
		if e != api.OK {
			return nil, e
		}
		b = append(b, f...)
	}
	return b, api.OK
}
