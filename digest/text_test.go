package digest_test

import (
	"encoding/hex"
	"strings"
	"testing"

	"packtrain/api"
	"packtrain/digest"
)

// counting is a digest whose bytes are first, first+1, ..
func counting(first int) (d api.Digest) {
	for i := range d {
		d[i] = byte(first + i)
	}
	return d
}

// checkParse looks at both results of Parse.
func checkParse(t *testing.T, s string, d api.Digest, e api.Errno) {
	t.Helper()
	if gotD, gotE := digest.Parse(s); gotD != d || gotE != e {
		t.Errorf("Parse(%q): %x, %d; want %x, %d", s, gotD, gotE, d, e)
	}
}

// P2.2: Text and Parse, for each byte.
func TestTextAndBack(t *testing.T) {
	for first := range 256 {
		d := counting(first)
		want := hex.EncodeToString(d[:])
		if got := digest.Text(d); got != want {
			t.Errorf("Text(%x) is %q", d, got)
		}
		checkParse(t, want, d, api.OK)
	}
}

// P2.2: the higher half of each byte is first, and no digest is left out.
func TestTextWrittenOut(t *testing.T) {
	want := "000102030405060708090a0b0c0d0e0f101112131415161718191a1b1c1d1e1f"
	if got := digest.Text(counting(0)); got != want {
		t.Errorf("%q", got)
	}
	zero := strings.Repeat("0", 64)
	if got := digest.Text(api.Digest{}); got != zero {
		t.Errorf("%q", got)
	}
	checkParse(t, zero, api.Digest{}, api.OK)
}

// P2.2: Parse of another number of characters.
func TestParseOfOtherLengths(t *testing.T) {
	whole := digest.Text(counting(100))
	for n := range whole {
		checkParse(t, whole[:n], api.Digest{}, api.ErrArg)
	}
	for _, s := range []string{whole + "0", whole + "00", whole + " ", "0" + whole, whole + whole, "zz"} {
		checkParse(t, s, api.Digest{}, api.ErrArg)
	}
}

// P2.2: Parse of each other byte, at each place: also of capital letters, and
// of the neighbours of those that are digits.
func TestParseOfOtherCharacters(t *testing.T) {
	whole := digest.Text(counting(200))
	for i := range whole {
		for c := range 256 {
			s := []byte(whole)
			s[i] = byte(c)
			if strings.ContainsRune("0123456789abcdef", rune(c)) {
				d, e := digest.Parse(string(s))
				if e != api.OK || digest.Text(d) != string(s) {
					t.Errorf("Parse(%q): %x, %d", s, d, e)
				}
				continue
			}
			checkParse(t, string(s), api.Digest{}, api.ErrArg)
		}
	}
	checkParse(t, strings.ToUpper(whole), api.Digest{}, api.ErrArg)
	checkParse(t, "0x"+whole[2:], api.Digest{}, api.ErrArg)
	checkParse(t, whole[:62]+"ä", api.Digest{}, api.ErrArg)
	checkParse(t, whole[:31]+" "+whole[32:], api.Digest{}, api.ErrArg)
}
