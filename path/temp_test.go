package path_test

import (
	"strings"
	"testing"

	"packtrain/api"
	"packtrain/path"
)

// P3.2: Temp of all samples, and P3.3: it is not a path, and Temped of it is
// what it was made of.
func TestTempAndBack(t *testing.T) {
	for _, s := range samples() {
		got, e := path.Temp(s)
		if !isPath(s) {
			if got != "" || e != path.Check(s) || e == api.OK {
				t.Errorf("Temp(%.80q): %q, %d", s, got, e)
			}
			continue
		}
		if got != ".tmp/"+s || e != api.OK {
			t.Errorf("Temp(%q): %q, %d", s, got, e)
		}
		if path.Check(got) == api.OK || path.Name(got) {
			t.Errorf("Temp(%q) is a path", s)
		}
		if back, ok := path.Temped(got); back != s || !ok {
			t.Errorf("Temped(%q): %q, %t", got, back, ok)
		}
	}
}

// P3.2: the errors of Temp, written out.
func TestTempErrors(t *testing.T) {
	for s, want := range map[string]api.Errno{
		"":                       api.ErrArg,
		".tmp/a":                 api.ErrArg,
		"a/b/c/d/e":              api.ErrArg,
		strings.Repeat("a", 25):  api.ErrArg,
		strings.Repeat("a/", 33): api.ErrLong,
	} {
		if got, e := path.Temp(s); got != "" || e != want {
			t.Errorf("Temp(%q): %q, %d", s, got, e)
		}
	}
}

// P3.2: Temped of all samples: what is not .tmp/ and a path is none.
func TestTempedOfSamples(t *testing.T) {
	for _, s := range samples() {
		for _, from := range []string{s, ".tmp/" + s, ".tmp" + s, "tmp/" + s, "/.tmp/" + s, ".tmp/.tmp/" + s} {
			want := ""
			if strings.HasPrefix(from, ".tmp/") && isPath(from[5:]) {
				want = from[5:]
			}
			if got, ok := path.Temped(from); got != want || ok != (want != "") {
				t.Errorf("Temped(%.80q): %q, %t", from, got, ok)
			}
		}
	}
}

// P3.2: the longest path has a temporary file, whose path has 69 bytes.
func TestTempOfLongestPath(t *testing.T) {
	s := strings.Repeat("a", 20) + "/" + strings.Repeat("b", 21) + "/" + strings.Repeat("c", 21)
	got, e := path.Temp(s)
	if len(s) != 64 || e != api.OK || len(got) != 69 {
		t.Errorf("%d bytes: %d bytes, %d", len(s), len(got), e)
	}
	if back, ok := path.Temped(got); back != s || !ok {
		t.Errorf("%q, %t", back, ok)
	}
	if back, ok := path.Temped(got + "c"); back != "" || ok {
		t.Errorf("%q, %t", back, ok)
	}
}
