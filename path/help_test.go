package path_test

import (
	"math/rand"
	"regexp"
	"slices"
	"strconv"
	"strings"
	"testing"
	"unsafe"

	"packtrain/api"
	"packtrain/path"
)

var (
	aName = regexp.MustCompile(`\A[a-z0-9_-][a-z0-9._-]{0,23}\z`)
	aPath = regexp.MustCompile(`\A[a-z0-9_-][a-z0-9._-]{0,23}(/[a-z0-9_-][a-z0-9._-]{0,23}){0,3}\z`)
	aBase = regexp.MustCompile(`\A((?:.*/)?)([^/]*?)(\.[^./]*)?\z`)
	aMark = regexp.MustCompile(`\.c(\d{1,2})-(\d{1,3})`)
)

// isPath is what the chapter calls a path.
func isPath(s string) bool {
	return len(s) <= 64 && aPath.MatchString(s)
}

// cut takes a path apart: the folder with its /, the stem and the ending.
func cut(s string) (folder, stem, ending string) {
	m := aBase.FindStringSubmatch(s)
	return m[1], m[2], m[3]
}

// copyOf is the path of a conflict copy as the chapter says, whether it is a
// path or not.
func copyOf(s string, device, number int) string {
	folder, stem, ending := cut(s)
	return folder + stem + ".c" + strconv.Itoa(device) + "-" + strconv.Itoa(number) + ending
}

// original is a path of which a conflict copy was made, and with what.
type original struct {
	path           string
	device, number int
}

// originals are all of whose conflict copy s is the path, each once: it is s
// without one of the places that look like a device and a number, of which two
// may leave the same.
func originals(s string) (found []original) {
	if !isPath(s) {
		return nil
	}
	for from := range s {
		for to := from + 1; to <= len(s); to++ {
			m := aMark.FindStringSubmatch(s[from:to])
			if m == nil || m[0] != s[from:to] {
				continue
			}
			device, _ := strconv.Atoi(m[1])
			number, _ := strconv.Atoi(m[2])
			o := original{s[:from] + s[to:], device, number}
			if device >= 1 && isPath(o.path) && copyOf(o.path, device, number) == s && !slices.Contains(found, o) {
				found = append(found, o)
			}
		}
	}
	return found
}

// edges are paths, and what is nearly one, at each limit that the chapter
// names.
func edges() []string {
	whole := strings.Repeat("a", 24)
	all := []string{
		"", "a", "z", "0", "9", "-", "_", ".", "..", "...", "a.", "a..", "-.-", "_.", "a.b", ".a", "a.b.c",
		"/", "//", "/a", "a/", "a//b", "a/b", "/a/b", "a/b/", "a/.", "a/..", "a/.b", "./a", "../a", "a/../b",
		"a/b/c", "a/b/c/d", "a/b/c/d/", "/a/b/c/d", "a/b/c//d", "a/b/c/d/e", "a/b/c/d/e/f", "a.b/c", "a.b/c.d", "a.b.c/d.e.f",
		"A", "aB", "a b", " a", "a ", "a\\b", "a:b", "a+b", "a\x00", "\x00", "a\n", "a/b\n", "ä", "a/ä", "\xff", "a\x80b", "a~", "a,b", "@a", "`a", "{a",
		whole, whole + "a", "." + whole[1:], whole[1:] + ".", whole + "/a", whole + "a/a", "a/" + whole, "a/" + whole + "a",
		".tmp", ".tmp/", ".tmp/a", ".tmp/.tmp/a", "tmp/a", ".tmpa", ".tmp//a", ".tmp/a/b.txt", ".tmp/a//b", ".TMP/a", "a.tmp/b", "/.tmp/a", ".tmp/.a",
	}
	for _, last := range []int{12, 13, 14, 15, 16, 24} {
		s := whole + "/" + whole + "/" + strings.Repeat("b", last)
		all = append(all, s, ".tmp/"+s, s+"/", s+"/c")
	}
	return append(all, strings.Repeat("a/", 32), strings.Repeat("a", 64), strings.Repeat("a", 65), strings.Repeat("/", 64),
		strings.Repeat("/", 65), strings.Repeat("A", 65), strings.Repeat("a/", 1<<20), strings.Repeat("a", 1<<20))
}

// copies are paths of conflict copies, and what is nearly one.
func copies() []string {
	var all []string
	for _, folder := range []string{"", "a/", "a.c1-1/", "a/b/c/"} {
		for _, stem := range []string{"", "b", "b.", "b.b", "-", "b.c1-1", "b.c3-4.c5-6", "b-c1"} {
			for _, mark := range []string{
				".c1-0", ".c9-9", ".c10-10", ".c99-999", ".c2-100", ".c0-0", ".c0-1", ".c100-0", ".c99-1000", ".c1-1001",
				".c01-0", ".c1-00", ".c1-01", ".c00-0", ".c1-010", ".c1", ".c1-", ".c-1", ".c-", ".c", ".", "", ".c1--1", ".c-1-1", ".c1-0-", ".c1-0-0",
				".c1_0", ".c1.0", ".d1-0", ".c1-0a", ".ca-0", ".c1-a", "c1-0", ".cc1-0", ".c1a-0", ".c1-0.", ".c1-0.c", ".c1-0.c2-0", ".c1-0.c2-0.c3-0",
				".c1-18446744073709551616", ".c18446744073709551617-0", ".c1-4294967296", ".c/1-0", ".c1/-0", ".c1-/0", ".c1-0/d",
			} {
				for _, ending := range []string{"", ".", ".txt", ".c", ".c4", ".-", "x", "-"} {
					all = append(all, folder+stem+mark+ending)
				}
			}
		}
	}
	return all
}

// near returns a text in which places at which names are cut are frequent.
func near(random *rand.Rand) string {
	parts := []string{"a", "b", ".", ".", "/", "/", "-", "_", "c", ".c", ".c1", "-2", ".c1-2", ".c30-456", "0", "1", "9", "99", ".tmp/", "A", "txt", ".txt"}
	s := ""
	for range random.Intn(9) {
		s += parts[random.Intn(len(parts))]
	}
	return s
}

// samples are all of these.
func samples() []string {
	all := append(edges(), copies()...)
	random := rand.New(rand.NewSource(3))
	for range 20000 {
		all = append(all, near(random))
	}
	return all
}

// paths are those of the samples that are paths.
func paths() (found []string) {
	for _, s := range samples() {
		if isPath(s) {
			found = append(found, s)
		}
	}
	return found
}

// checkCopy looks at both results of Copy.
func checkCopy(t *testing.T, s string, device, number int, want string, e api.Errno) {
	t.Helper()
	if got, gotE := path.Copy(s, device, number); got != want || gotE != e {
		t.Errorf("Copy(%.80q, %d, %d): %q, %d; want %q, %d", s, device, number, got, gotE, want, e)
	}
}

// checkCopied looks at all results of Copied; want has no path if s is not the
// path of a conflict copy.
func checkCopied(t *testing.T, s string, want original) {
	t.Helper()
	p, device, number, ok := path.Copied(s)
	if (original{p, device, number}) != want || ok != (want.path != "") {
		t.Errorf("Copied(%.80q): %q, %d, %d, %t; want %q, %d, %d", s, p, device, number, ok, want.path, want.device, want.number)
	}
}

// checkOwn looks whether a result shares memory with the argument it is made
// of.
func checkOwn(t *testing.T, what, result, argument string) {
	t.Helper()
	if result == "" || argument == "" {
		return
	}
	at := uintptr(unsafe.Pointer(unsafe.StringData(result)))
	from := uintptr(unsafe.Pointer(unsafe.StringData(argument)))
	if at >= from && at < from+uintptr(len(argument)) {
		t.Errorf("%s of %q returns %q in the memory of its argument", what, argument, result)
	}
}
