package digest

import (
	"strings"

	"packtrain/api"
)

// digits are the characters of a text, by the half of a byte.
const digits = "0123456789abcdef"

// Text returns the 64 characters of d, the higher half of each byte first.
func Text(d api.Digest) string {
	t := make([]byte, 0, 2*len(d))
	for _, c := range d {
		t = append(t, digits[c>>4], digits[c&15])
	}
	return string(t)
}

// Parse returns the digest whose text is s.
func Parse(s string) (api.Digest, api.Errno) {
	var d api.Digest
	if len(s) != 2*len(d) {
		return api.Digest{}, api.ErrArg
	}
	for i := range d {
		high := strings.IndexByte(digits, s[2*i])
		low := strings.IndexByte(digits, s[2*i+1])
		if high < 0 || low < 0 {
			return api.Digest{}, api.ErrArg
		}
		d[i] = byte(high<<4 | low)
	}
	return d, api.OK
}
